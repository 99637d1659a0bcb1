/- In one text: RnDefer, RnDef2, RnLay. -/
import Derived.Test.YtdlomcgkpiejgaaGreatDoorP37
import Derived.Defers
import Derived.Test.YtdlomcgkpiejgaaGreatDoorP16
/- Contracts of calls that are put off (made by gen/defer.py out of the plain ones' texts). -/
namespace Go.Proofs.YtdlomcgkpiejgaaGreatDoor
open Go.RowKit FsPlain CrcPlain OctPlain FramePlain RecPlain RdPlain WrPlain
set_option linter.unusedVariables false
set_option linter.unusedSimpArgs false
set_option maxRecDepth 20000
set_option maxHeartbeats 1000000 in
theorem bgive_d (u : FrameMode) (p : Nat) (b : Bu) (n : Int) (w : World) (h : BAt w p b) :
    CallsD Tryz.prog 32 #[.pointer (some ⟨p, 0, none⟩), .int .i64 n] u w fun e u' w' => u' = u ∧ ((BTaken p (b.give n) w (.tuple #[]))) e w' := by
  have C := bmade_c p b w h
  have c2 : w.cell? ⟨p, 2, none⟩ = some (.int .i64 b.now) := by rw [cells_at h.2]; rfl
  have f2 := cells_free h.2 2
  have H := Lib.hid h
  obtain ⟨⟨n0, n1, h1, m1⟩, _⟩ := h
  by_cases h3 : n < 0
  · go_enter_d Tryz.func32, Tryz.ntmps32
    go_wp2_with fail
    refine C.mono ?_; rintro e w2 ⟨rfl, rfl⟩
    go_wp2_with fail
    refine bodyPost_ret (results_none rfl _ _ _) rfl ?_
    rw [show b.give n = b by unfold Bu.give; rw [if_pos h3]]
    exact ⟨rfl, H.out, Only.refl _ _⟩
  · have K := Lib.hid (fun a (ha : a = b.now - min n b.now) => bgive_of (n := n) (a := a) H.out (by omega) ha)
    go_enter_d Tryz.func32, Tryz.ntmps32
    go_wp2_with fail
    refine C.mono ?_; rintro e w2 ⟨rfl, rfl⟩
    go_wp2_with fail
    go_region
    all_goals go_wp2_with fail
    all_goals
      go_end0
      refine ⟨rfl, K.out _ ?_⟩; omega
theorem rp_close_d (u : FrameMode) (x D P : Nat) (m : N3) (hi : m.inv) (w : World) (B : Nat → Prop) (h : RP3 x D P m w B) :
    CallsD Tryz.prog 34 #[.pointer (some ⟨x, 0, none⟩)] u w fun e u' w' => u' = u ∧ ((Does w B (RP3 x D P (closeN m)) (.tuple #[]))) e w' := by
  cases ho : m.x.opn
  · have e : closeN m = m := by unfold closeN; rw [ho]; rfl
    rw [e]
    have CO := Lib.hid (ropen_no x w (by rw [cells_at (rsh_blk (rp3_shut ho h))]; rfl))
    have H := Lib.hid h
    clear h e ho hi
    go_enter_d Tryz.func34, Tryz.ntmps34
    go_wp2_with fail
    refine CO.out.mono ?_; rintro e w2 ⟨rfl, rfl⟩
    go_wp2_with fail
    go_end0
    exact ⟨rfl, B, H.out, Nx.refl _ _⟩
  · have e : closeN m = ⟨m.s, m.b.give 4, { m.x with bad := true, opn := false }⟩ := by unfold closeN wrongN shutN; rw [if_pos ho, if_pos (show m.isBad.x.opn = true from ho)]; rfl
    rw [e]
    have h := rp3_open ho h
    have CO := Lib.hid (ropen_yes x ⟨D, 0, none⟩ w (ro_start h).1)
    have CS := Lib.hid (r_stop x D P m false w B h)
    have HW := Lib.hid (hi.o ho).2
    clear h e ho hi
    go_enter_d Tryz.func34, Tryz.ntmps34
    go_wp2_with fail
    refine CO.out.mono ?_; rintro e w2 ⟨rfl, rfl⟩
    go_wp2_with fail
    refine CS.out.mono ?_; rintro e w2 hd
    obtain ⟨rfl, B2, h2, n2⟩ := hd
    have H2 := Lib.hid h2
    have N2 := Lib.hid n2
    clear h2 n2 CS
    go_wp2_with fail
    go_end0
    refine ⟨rfl, B2, .inr ⟨rfl, ?_⟩, N2.out⟩
    have := H2.out
    rw [show ({ m.x with bad := true, opn := false } : Rs).whole = false from HW.out]
    exact this
set_option maxRecDepth 20000 in
set_option maxHeartbeats 2000000 in
theorem w_drop_d (u : FrameMode) (x D P : Nat) (m : M3) (w : World) (B : Nat → Prop) (h : W3 x D P m w B) :
    CallsD Tryz.prog 63 #[.pointer (some ⟨x, 0, none⟩)] u w fun e u' w' => u' = u ∧ ((Does w B (W3 x D P (dropM m)) (.tuple #[]))) e w' := by
  cases ho : m.x.opn
  · have e : dropM m = m := by unfold dropM; rw [ho]; rfl
    rw [e]
    have c0 : w.cell? ⟨x, 0, none⟩ = some (.pointer none) := by rw [cells_at (w3_shut ho h)]; rfl
    have CO := Lib.hid (wopen_no x w c0)
    have H := Lib.hid h
    clear h e ho c0
    go_enter_d Tryz.func63, Tryz.ntmps63
    go_wp2_with fail
    refine CO.out.mono ?_; rintro e w2 ⟨rfl, rfl⟩
    go_wp2_with fail
    go_end0
    exact ⟨rfl, B, H.out, Nx.refl _ _⟩
  · have e : dropM m = ⟨m.s, m.b.give 4, { m.x with opn := false }⟩ := by unfold dropM; rw [ho]; rfl
    rw [e]
    obtain ⟨vw, h⟩ := w3_open ho h
    have hb := wl_blk h
    have hxl := lt_of_block hb
    have CO := Lib.hid (wopen_yes x ⟨D, 0, none⟩ w (by rw [cells_at hb]; rfl))
    have c2 : w.cell? ⟨x, 2, none⟩ = some (.pointer (some ⟨P, 0, none⟩)) := by rw [cells_at hb]; rfl
    have C := does_at (f := 32) (Q := BuA P (m.b.give 4)) 3 rfl (frs_wl _ _ _ _ _ _ _ _) h fun B2 h2 => bu_give P m.b 4 w B2 h2
    have HC := Lib.hid C
    clear h hb C e ho
    go_enter_d Tryz.func63, Tryz.ntmps63
    go_wp2_with fail
    refine CO.out.mono ?_; rintro e w2 ⟨rfl, rfl⟩
    go_wp2_with fail
    refine HC.out.mono ?_; rintro e w2 hd
    obtain ⟨rfl, B2, h2, n2⟩ := hd
    have hb := wl_blk h2
    have c5 : w2.cell? ⟨x, 5, none⟩ = some (.int .i64 m.x.all.length) := by rw [cells_at hb]; rfl
    have f0 := cells_free hb 0
    have f1 := cells_free hb 1
    have f2 := cells_free hb 2
    have f3 := cells_free hb 3
    have f4 := cells_free hb 4
    have f5 := cells_free hb 5
    have f6 := cells_free hb 6
    have b0 : w2.cell? ⟨x, 0, none⟩ = some (.pointer (some ⟨D, 0, none⟩)) := by rw [cells_at hb]; rfl
    have b1 : w2.cell? ⟨x, 1, none⟩ = some (.string m.x.nm) := by rw [cells_at hb]; rfl
    have b2 : w2.cell? ⟨x, 2, none⟩ = some (.pointer (some ⟨P, 0, none⟩)) := by rw [cells_at hb]; rfl
    have b3 : w2.cell? ⟨x, 3, none⟩ = some (.int .i64 m.x.size) := by rw [cells_at hb]; rfl
    have b4 : w2.cell? ⟨x, 4, none⟩ = some vw := by rw [cells_at hb]; rfl
    have b6 : w2.cell? ⟨x, 6, none⟩ = some (.int .u32 (sumN m.x.all : Nat)) := by rw [cells_at hb]; rfl
    have SH := Lib.hid (wl_shut (y := m.x) (x := x) (D := D) (P := P) (s := m.s) (b := m.b.give 4) (wait := m.x.wait) m.x.all.length rfl h2)
    have N2 := Lib.hid n2
    clear h2 n2 hb HC
    go_wp2_with fail
    go_end0
    obtain ⟨B3, h3, n3⟩ := SH.out
    exact ⟨rfl, B3, h3, N2.out.trans n3⟩
end Go.Proofs.YtdlomcgkpiejgaaGreatDoor
/- Calls that are put off, beside whatever else there is. -/
namespace Go.Proofs.YtdlomcgkpiejgaaGreatDoor
open Go.RowKit FsPlain CrcPlain OctPlain FramePlain RecPlain RdPlain WrPlain
set_option linter.unusedVariables false
set_option linter.unusedSimpArgs false
set_option maxRecDepth 20000
theorem does_pre_d {Pr : Program} {f : FuncId} {args : Array Value} {v : Value} {u : FrameMode} {w : World} {B : Nat → Prop} (L : List Asn) {L' M : List Asn} (hM : Frs M) (h : stars (L ++ M) w B) (k : ∀ B1, stars L w B1 → CallsD Pr f args u w fun e u' w' => u' = u ∧ Does w B1 (stars L') v e w') : CallsD Pr f args u w fun e u' w' => u' = u ∧ Does w B (stars (L' ++ M)) v e w' := by
  obtain ⟨B1, h1, nx⟩ := pre_nx L hM h
  refine (k B1 h1).mono ?_
  rintro e u' w' ⟨hu, he, B', h', n⟩
  obtain ⟨B3, k3, n3⟩ := nx L' w' B' h' n
  exact ⟨hu, he, B3, k3, n3⟩
theorem wr_drop_d {x D P : Nat} {m : M3} (u : FrameMode) {w : World} {B : Nat → Prop} {M : List Asn} (hM : Frs M) (h : stars ([WrA x D P m.x, DiskA D m.s, BuA P m.b] ++ M) w B) :
    CallsD Tryz.prog 63 #[.pointer (some ⟨x, 0, none⟩)] u w fun e u' w' => u' = u ∧ Does w B (stars ([WrA x D P (dropM m).x, DiskA D (dropM m).s, BuA P (dropM m).b] ++ M)) (.tuple #[]) e w' :=
  does_pre_d (L' := [WrA x D P (dropM m).x, DiskA D (dropM m).s, BuA P (dropM m).b]) [WrA x D P m.x, DiskA D m.s, BuA P m.b] hM h fun B1 h1 => w_drop_d u x D P m w B1 h1
theorem rd_close_d {x D P : Nat} {m : N3} (u : FrameMode) (hi : m.inv) {w : World} {B : Nat → Prop} {M : List Asn} (hM : Frs M) (h : stars ([RdP x D P m.x, DiskA D m.s, BuA P m.b] ++ M) w B) :
    CallsD Tryz.prog 34 #[.pointer (some ⟨x, 0, none⟩)] u w fun e u' w' => u' = u ∧ Does w B (stars ([RdP x D P (closeN m).x, DiskA D (closeN m).s, BuA P (closeN m).b] ++ M)) (.tuple #[]) e w' :=
  does_pre_d (L' := [RdP x D P (closeN m).x, DiskA D (closeN m).s, BuA P (closeN m).b]) [RdP x D P m.x, DiskA D m.s, BuA P m.b] hM h fun B1 h1 => (rp_close_d u x D P m hi w B1 (rd_join h1)).mono fun e u' w' ⟨hu, he, B', h', n⟩ => ⟨hu, he, B', rd_split h', n⟩
theorem bu_give_d {P : Nat} {b : Bu} (n : Int) (u : FrameMode) {w : World} {B : Nat → Prop} {M : List Asn} (hM : Frs M) (h : stars ([BuA P b] ++ M) w B) :
    CallsD Tryz.prog 32 #[.pointer (some ⟨P, 0, none⟩), .int .i64 n] u w fun e u' w' => u' = u ∧ Does w B (stars ([BuA P (b.give n)] ++ M)) (.tuple #[]) e w' := by
  refine does_pre_d (L' := [BuA P (b.give n)]) [BuA P b] hM h fun B1 h1 => ?_
  obtain ⟨Ba, Bb, hb, hnil, a, e⟩ := h1
  have hBa : BuA P b w B1 := by
    have : Ba = B1 := by funext x; rw [eq_iff_iff, e x]; exact ⟨.inl, fun k => k.resolve_right (hnil x)⟩
    rw [← this]; exact hb
  refine (bgive_d u P b n w hBa.at).mono ?_
  rintro e u' w' ⟨hu, he, k, g⟩
  obtain ⟨B', h', n'⟩ := bu_next hBa k g
  exact ⟨hu, he, B', stars_one h', n'⟩
end Go.Proofs.YtdlomcgkpiejgaaGreatDoor
/- A file of records written by a function that puts off the writer's Drop (the program's write). -/
namespace Go.Proofs.YtdlomcgkpiejgaaGreatDoor
open Go.RowKit FsPlain CrcPlain OctPlain FramePlain RecPlain RdPlain WrPlain
set_option linter.unusedVariables false
set_option linter.unusedSimpArgs false
set_option maxRecDepth 20000
theorem ok_closeM {m : M3} (h : m.ok) : (closeM m).1.ok := by
  have h1 : (flushM m).1.ok := by
    unfold flushM
    split
    · exact h
    · exact ok_layM h _
  have h2 : (endM (flushM m).1).1.ok := ok_layM h1 _
  have h3 : (syncM (endM (flushM m).1).1).1.ok := ⟨ok_sync h2.s _, h2.b, h2.n1, h2.n2, h2.z, h2.wl, h2.wz, h2.az⟩
  unfold closeM
  split
  · exact h
  · split
    · exact h1
    · split
      · exact ok_dropM h2
      · exact ok_dropM h3
/-- What it leaves. -/
def LayR (s : St) (b : Bu) (nm : ByteArray) (nn : Int) (l : List ByteArray) (s' : St) (b' : Bu) (er : Int) : Prop :=
  ((er = 0 ∧ b.takeE 4 = 0 ∧ s'.ok ∧ b' = (b.take 4).give 4 ∧ Oth nm.data.toList 1 s s' ∧ HasD s' nm.data.toList (bs (layL nn l))) ∨ (er = b.takeE 4 ∧ er ≠ 0 ∧ s' = s ∧ b' = b.take 4) ∨ ((er = 4 ∨ er = 5) ∧ s'.ok ∧ b.takeE 4 = 0 ∧ b' = (b.take 4).give 4 ∧ ∃ d, d ≤ 1 ∧ Oth nm.data.toList d s s')) ∧
  (WrPlain.Calm s → b.takeE 4 = 0 → s.fs.length < 200 → (used s.fs : Int) + 28 + 69 * (l.length : Nat) ≤ s.room → er = 0 ∧ WrPlain.Calm s' ∧ used s'.fs ≤ used s.fs + 28 + 69 * l.length) ∧ s'.calls ≤ s.calls + 10 + (l.length : Nat)
/-- At the head of a round, behind j records. -/
structure LyJ (m : M3) (nm : ByteArray) (nn : Int) (l : List ByteArray) (s : St) (b : Bu) (j : Nat) : Prop where
  on : WrOn m nm nn (l.take j)
  bud : m.b = b.take 4
  free : b.takeE 4 = 0
  oth : Oth nm.data.toList 1 s m.s
  calls : m.s.calls ≤ s.calls + 2 + (j : Int)
  calm : WrPlain.Calm s → b.takeE 4 = 0 → s.fs.length < 200 → (used s.fs : Int) + 28 + 69 * (l.length : Nat) ≤ s.room → WrPlain.Calm m.s ∧ Fits m (used s.fs)
theorem lyJ_put {m : M3} {nm : ByteArray} {nn : Int} {l : List ByteArray} {s : St} {b : Bu} {j : Nat} (h : LyJ m nm nn l s b j) {r : ByteArray} (hr : l[j]? = some r) (hz : (r.size : Int) = nn) :
    ((putM m r).2 = 0 ∧ LyJ (putM m r).1 nm nn l s b (j + 1)) ∨ ((putM m r).2 ≠ 0 ∧ (dropM (putM m r).1) = (putM m r).1 ∧ LayR s b nm nn l (putM m r).1.s (putM m r).1.b (putM m r).2) := by
  have hj : j < l.length := (List.getElem?_eq_some_iff.1 hr).1
  have hst : l.take (j + 1) = l.take j ++ [r] := by rw [List.take_add_one, hr]; rfl
  have hc := putM_calls m r
  have hlt : (l.take j).length = j := by rw [List.length_take]; omega
  have key : WrPlain.Calm s → b.takeE 4 = 0 → s.fs.length < 200 → (used s.fs : Int) + 28 + 69 * (l.length : Nat) ≤ s.room → (putM m r).2 = 0 ∧ WrPlain.Calm (putM m r).1.s ∧ Fits (putM m r).1 (used s.fs) := fun a1 a2 a3 a4 => by
    obtain ⟨c1, c2⟩ := h.calm a1 a2 a3 a4
    exact put_fits h.on c1 hz c2 (by rw [hlt, h.oth.room]; omega)
  have hcl := h.calls
  rcases put_f h.on hz with ⟨h0, hW, hb, hO⟩ | hg
  · left
    refine ⟨h0, ⟨by rw [hst]; exact hW, by rw [hb, h.bud], h.free, h.oth.trans hO, by omega, fun a1 a2 a3 a4 => (key a1 a2 a3 a4).2⟩⟩
  · right
    have hne : (putM m r).2 ≠ 0 := by rcases hg.code with e | e <;> rw [e] <;> decide
    refine ⟨hne, by unfold dropM; rw [if_neg (by rw [hg.opn]; decide)], .inr (.inr ⟨hg.code, hg.ok.s, h.free, by rw [hg.bud, h.bud], 1, Nat.le_refl _, h.oth.trans hg.oth⟩), fun a1 a2 a3 a4 => absurd (key a1 a2 a3 a4).1 hne, by omega⟩
theorem lyJ_close {m : M3} {nm : ByteArray} {nn : Int} {l : List ByteArray} {s : St} {b : Bu} (h : LyJ m nm nn l s b l.length) (hl : l.length ≤ 10000) : (dropM (closeM m).1) = (closeM m).1 ∧ LayR s b nm nn l (closeM m).1.s (closeM m).1.b (closeM m).2 := by
  have ht : l.take l.length = l := List.take_length
  have hon := h.on
  rw [ht] at hon
  have hok : (closeM m).1.ok := ok_closeM hon.ok
  have hc := (closeM_calls m).1
  have hcl := h.calls
  have key : WrPlain.Calm s → b.takeE 4 = 0 → s.fs.length < 200 → (used s.fs : Int) + 28 + 69 * (l.length : Nat) ≤ s.room → (closeM m).2 = 0 ∧ WrPlain.Calm (closeM m).1.s ∧ used (closeM m).1.s.fs ≤ used s.fs + 28 + 69 * l.length := fun a1 a2 a3 a4 => by
    obtain ⟨c1, c2⟩ := h.calm a1 a2 a3 a4
    exact close_fits hon c1 c2 (by rw [h.oth.room]; omega)
  have hop : (closeM m).1.x.opn = false := by
    rcases close_f hon (by omega) hok with ⟨_, hd⟩ | hg
    · exact hd.opn
    · exact hg.opn
  refine ⟨by unfold dropM; rw [if_neg (by rw [hop]; decide)], ?_, fun a1 a2 a3 a4 => key a1 a2 a3 a4, by omega⟩
  rcases close_f hon (by omega) hok with ⟨h0, hd⟩ | hg
  · obtain ⟨f, f1, f2⟩ := hd.file
    exact .inl ⟨h0, h.free, hd.ok.s, by rw [hd.bud, h.bud], h.oth.trans hd.oth, f, f1, by rw [f2, bs_data]⟩
  · exact .inr (.inr ⟨hg.code, hg.ok.s, h.free, by rw [hg.bud, h.bud], 1, Nat.le_refl _, h.oth.trans hg.oth⟩)
/-- The loop of lay. -/
def LyAt (x D P : Nat) (nm : ByteArray) (nn : Int) (l : List ByteArray) (s : St) (b : Bu) (M : List Asn) (w : World) (B : Nat → Prop) (i : Value) (wr : World) : Prop :=
  ∃ (j : Nat) (m : M3) (B' : Nat → Prop), j ≤ l.length ∧ i = .int .i64 (j : Int) ∧ LyJ m nm nn l s b j ∧ stars ([WrA x D P m.x, DiskA D m.s, BuA P m.b] ++ M) wr B' ∧ Nx B w B' wr
def LayGot (D P : Nat) (s : St) (b : Bu) (nm : ByteArray) (nn : Int) (l : List ByteArray) (M : List Asn) (w : World) (B : Nat → Prop) (e : Ending) (w' : World) : Prop :=
  ∃ s' b' er, e = .returned (.int .i64 er) ∧ LayR s b nm nn l s' b' er ∧ ∃ B', stars ([DiskA D s', BuA P b'] ++ M) w' B' ∧ Nx B w B' w'
/-- The writer that is shut is forgotten. -/
theorem wr_forget {x D P : Nat} {m : M3} {M : List Asn} (hM : Frs M) {w : World} {B : Nat → Prop} (h : stars ([WrA x D P m.x, DiskA D m.s, BuA P m.b] ++ M) w B) : ∃ B', stars ([DiskA D m.s, BuA P m.b] ++ M) w B' ∧ Nx B w B' w := stars_drop h
theorem lies_cell {w : World} {a : Option Addr} {n c : Nat} {l : List ByteArray} (h : Lies w (.slice a n c) l) {j : Nat} {r : ByteArray} (hr : l[j]? = some r) : ∃ b off, a = some ⟨b, off, none⟩ ∧ w.cell? ⟨b, off + j, none⟩ = some (.string r) := by
  obtain ⟨a', c', e, _, hrow⟩ := h
  simp only [Value.slice.injEq] at e
  obtain ⟨rfl, _, _⟩ := e
  rcases hrow with h0 | ⟨b, off, e, hrw⟩
  · rw [h0] at hr; simp at hr
  · exact ⟨b, off, e, hrw.2 j r hr⟩
set_option maxHeartbeats 2000000 in
theorem lay16_c {D P : Nat} {s : St} {b : Bu} {nm : ByteArray} {nn : Int} {v : Value} {l : List ByteArray} (hz : I64 nn) (hs : s.ok) (hb : b.ok) (hn : nm.size ≤ 24) (hm : rightB nm.data.toList = true) (hsz : sizeB nn = true) (hg : s.get nm.data.toList = none) (hc : s.calls ≤ 10000000) (hl : l.length ≤ 10000) (hsizes : ∀ r ∈ l, (r.size : Int) = nn)
    {w : World} {B : Nat → Prop} {M : List Asn} (hM : Frs M) (hv : ∀ (wr : World) (B' : Nat → Prop), stars M wr B' → Lies wr v l) (h : stars ([DiskA D s, BuA P b] ++ M) w B) :
    Calls Tryz.prog 36 #[.pointer (some ⟨D, 0, none⟩), .pointer (some ⟨P, 0, none⟩), .string nm, .int .i64 nn, v] w (LayGot D P s b nm nn l M w B) := by
  have CR := Lib.hid (wr_create (nm := nm) hz hn hm (by omega) hM h)
  have CF := Lib.hid (create_f hs hb hn hm hsz hg)
  have CC := Lib.hid (fun (a1 : WrPlain.Calm s) (a2 : b.takeE 4 = 0) (a3 : s.fs.length < 200) (a4 : (used s.fs : Int) + 11 ≤ s.room) => create_fits (nn := nn) hs a2 a1 hsz hg hn a3 a4)
  have CK := Lib.hid (createM_calls s b nm nn)
  obtain ⟨R, hR⟩ : ∃ R, createM s b nm nn = R := ⟨_, rfl⟩
  rw [hR] at CR CF CC CK
  have sh : ∃ a c, v = .slice a l.length c := by
    obtain ⟨B1, B2, _, h2, _⟩ := stars_app.1 h
    obtain ⟨a, c, e, _⟩ := hv w B2 h2
    exact ⟨a, c, e⟩
  obtain ⟨va, vc, rfl⟩ := sh
  have HV := Lib.hid hv
  have HL := Lib.hid hl
  have HS := Lib.hid hsizes
  have HC := Lib.hid hc
  have HM := Lib.hid hM
  clear hR h hv hl hsizes hc hM hs hb hn hm hsz hg
  obtain ⟨n, hnl⟩ : ∃ n, l.length = n := ⟨_, rfl⟩
  have HN := Lib.hid hnl
  rw [hnl]
  clear hnl
  go_enter_defers Tryz.func36, Tryz.ntmps36
  go_wp2_with fail
  refine CR.out.mono ?_; rintro e u (⟨h0, x, rfl, B1, k1, n1⟩ | ⟨h0, rfl, B1, k1, n1⟩)
  · have START := Lib.hid (show LyAt x D P nm nn l s b M w B (.int .i64 0) u by
      rcases CF.out with ⟨c0, c1, c2, c3, c4⟩ | ⟨c0, c1, _⟩ | ⟨c0, _⟩
      · refine ⟨0, ⟨R.1, R.2.1, newWs nm nn⟩, B1, Nat.zero_le _, rfl, ⟨c2, c3, c1, c4, by have := CK.out; show R.1.calls ≤ _; omega, fun a1 a2 a3 a4 => ?_⟩, k1, n1⟩
        obtain ⟨_, f1, f2⟩ := CC.out a1 a2 a3 (by omega)
        refine ⟨f1, ?_⟩
        unfold Fits
        show used R.1.fs + 69 * 0 ≤ used s.fs + 11 + 69 * 0
        omega
      · exact absurd (c0.symm.trans h0) c1
      · rcases c0 with c0 | c0 <;> rw [c0] at h0 <;> cases h0)
    clear k1 n1 h0 CR CF CC CK
    go_wp2_with fail
    go_loopw [30] (fun i wr => LyAt x D P nm nn l s b M w B i wr) (fun i _ => n - (intOf i).toNat)
    case atStart => exact START.out
    case round =>
      obtain ⟨j, m, B', hj, rfl, hJ, hst, nx⟩ := hrel
      have hjn := HN.out
      rw [hjn] at hj
      have J := Lib.hid hJ
      have ST := Lib.hid hst
      have NX := Lib.hid nx
      by_cases hlt : j < n
      · have hltI : (j : Int) < (n : Int) := by omega
        have hnI : (n : Int) ≤ 10000 := by have := HL.out; omega
        obtain ⟨r, hr⟩ : ∃ r, l[j]? = some r := ⟨l[j]'(by omega), List.getElem?_eq_getElem _⟩
        have hrz := HS.out r (List.mem_of_getElem? hr)
        have hlies : Lies wr (.slice va l.length vc) l := by
          obtain ⟨_, B2, _, h2, _⟩ := stars_app.1 hst
          exact HV.out wr B2 h2
        obtain ⟨vb, off, rfl, cr⟩ := lies_cell hlies hr
        have hlen := hJ.on.all
        have C := Lib.hid (wr_put r hJ.on.ok (by rw [hlen, List.length_take]; have := HL.out; omega) (by have := hJ.calls; have := HC.out; have := HL.out; omega) HM.out hst)
        have PF := Lib.hid (lyJ_put hJ hr hrz)
        obtain ⟨M2, hM2⟩ : ∃ M2, putM m r = M2 := ⟨_, rfl⟩
        rw [hM2] at C PF
        clear hJ hst nx hlies hlen hrz hr hM2 START hjn
        go_wp2_with fail
        refine C.out.mono ?_; rintro e u2 ⟨rfl, B2, k2, n2⟩
        have K2 := Lib.hid k2
        have N2 := Lib.hid (NX.out.trans n2)
        clear k2 n2
        by_cases h0 : M2.2 = 0
        · have h1 : (M2.2 != 0) = false := by simp [h0]
          have hJ2 : LyJ M2.1 nm nn l s b (j + 1) := by
            rcases PF.out with ⟨_, q⟩ | ⟨q, _⟩
            · exact q
            · exact absurd h0 q
          have J2 := Lib.hid hJ2
          clear hJ2
          go_wp2_with fail
          refine ⟨⟨j + 1, M2.1, B2, by have := HN.out; omega, rfl, J2.out, K2.out, N2.out⟩, ?_⟩
          simp [intOf]; omega
        · have h1 : (M2.2 != 0) = true := by simpa using h0
          have hR2 : dropM M2.1 = M2.1 ∧ LayR s b nm nn l M2.1.s M2.1.b M2.2 := by
            rcases PF.out with ⟨q, _⟩ | ⟨_, q⟩
            · exact absurd q h0
            · exact q
          have R2 := Lib.hid hR2
          clear hR2
          have DR := Lib.hid (wr_drop_d .returning HM.out K2.out)
          rw [R2.out.1] at DR
          go_wp2_with fail
          refine leaves_cons (f := 63) (args := #[.pointer (some ⟨x, 0, none⟩)]) (by simp) (by simp [go_sem]) ?_
          refine DR.out.mono ?_
          rintro e u' w'' ⟨rfl, rfl, B3, k3, n3⟩
          obtain ⟨B4, k4, n4⟩ := wr_forget HM.out k3
          exact ⟨_, results_tmp rfl _ _ _, M2.1.s, M2.1.b, _, rfl, R2.out.2, B4, k4, (N2.out.trans n3).trans n4⟩
      · obtain rfl : j = n := by omega
        have hJ2 := hJ
        rw [← hjn] at hJ2
        have C := Lib.hid (wr_close hJ.on.ok (by rw [hJ.on.all, List.length_take]; have := HL.out; omega) (by have := hJ.calls; have := HC.out; have := HL.out; omega) HM.out hst)
        have R2 := Lib.hid (lyJ_close hJ2 HL.out)
        have hcv : ∃ a, closeV m (closeM m).2 = .tuple #[a, .int .i64 (closeM m).2] := ⟨_, rfl⟩
        obtain ⟨ca, hca⟩ := hcv
        rw [hca] at C
        obtain ⟨M2, hM2⟩ : ∃ M2, closeM m = M2 := ⟨_, rfl⟩
        rw [hM2] at C R2
        clear hJ hJ2 hst nx hM2 START hjn hca
        go_wp2_with fail
        refine C.out.mono ?_; rintro e u2 ⟨rfl, B2, k2, n2⟩
        have K2 := Lib.hid k2
        have N2 := Lib.hid (NX.out.trans n2)
        clear k2 n2
        have DR := Lib.hid (wr_drop_d .returning HM.out K2.out)
        rw [R2.out.1] at DR
        go_wp2_with fail
        refine leaves_cons (f := 63) (args := #[.pointer (some ⟨x, 0, none⟩)]) (by simp) (by simp [go_sem]) ?_
        refine DR.out.mono ?_
        rintro e u' w'' ⟨rfl, rfl, B3, k3, n3⟩
        obtain ⟨B4, k4, n4⟩ := wr_forget HM.out k3
        exact ⟨_, results_tmp rfl _ _ _, M2.1.s, M2.1.b, _, rfl, R2.out.2, B4, k4, (N2.out.trans n3).trans n4⟩
  · have hne : (R.2.2 != 0) = true := by simpa using h0
    have LR : LayR s b nm nn l R.1 R.2.1 R.2.2 := by
      refine ⟨?_, fun a1 a2 a3 a4 => absurd (CC.out a1 a2 a3 (by omega)).1 h0, by have := CK.out; omega⟩
      rcases CF.out with ⟨c0, _⟩ | ⟨c0, c1, c2, c3⟩ | ⟨c0, c1, c2, c3, d, c4, c5⟩
      · exact absurd c0 h0
      · exact .inr (.inl ⟨c0, h0, c2, c3⟩)
      · exact .inr (.inr ⟨c0, c1, c2, c3, d, c4, c5⟩)
    have HLR := Lib.hid LR
    clear LR CF CC CK CR
    go_wp2_with fail
    exact ⟨_, results_tmp rfl _ _ _, R.1, R.2.1, R.2.2, rfl, HLR.out, B1, k1, n1⟩
end Go.Proofs.YtdlomcgkpiejgaaGreatDoor
