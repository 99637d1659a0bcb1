/- In one text: Wr3, Wr4, WrBits, Wr5. -/
import Derived.Test.YtjplkmmhjfpdaaaGreatDoorQ21
import Derived.Test.YtjplkmmhjfpdaaaGreatDoorQ04
import Derived.Test.YtjplkmmhjfpdaaaGreatDoorQ03
import Derived.Test.YtjplkmmhjfpdaaaGreatDoorQ06
import Derived.Test.YtjplkmmhjfpdaaaGreatDoorQ09
/- The program's writer: addBlock, Drop. -/
namespace Go.Proofs.YtjplkmmhjfpdaaaGreatDoor
open Go.RowKit FsPlain CrcPlain OctPlain FramePlain RecPlain WrPlain
set_option linter.unusedVariables false
set_option linter.unusedSimpArgs false
set_option maxRecDepth 20000
set_option maxRecDepth 20000 in
set_option maxHeartbeats 2000000 in
theorem w_block (x D P : Nat) (m : M3) (T : ByteArray) (hT : T = blkS m.x.size m.x.wait) (hTs : T.size ≤ 300) (hs1 : 1 ≤ m.x.size) (hs2 : m.x.size ≤ 64) (hn : m.x.nm.size ≤ 24) (hm : rightB m.x.nm.data.toList = true) (hwl : m.x.wait.length ≤ 1000) (hwz : ∀ r ∈ m.x.wait, (r.size : Int) = m.x.size) (hc : m.s.calls ≤ 1000000000000) (w : World) (B : Nat → Prop) (h : WO x D P m w B) :
    Calls Tryz.prog 143 #[.pointer (some ⟨x, 0, none⟩)] w (Does w B (WO x D P ⟨(appendR m.s m.x.nm.data.toList T.data.toList).1, m.b, m.x.none⟩) (.int .i64 (appendR m.s m.x.nm.data.toList T.data.toList).2)) := by
  obtain ⟨vw, h⟩ := h
  obtain ⟨_, hrw, _⟩ := part_at 1 rfl h
  obtain ⟨aw, cw, rfl, _⟩ := rowE_shape hrw
  obtain ⟨n, hn'⟩ : ∃ n, m.x.wait.length = n := ⟨_, rfl⟩
  have HN := Lib.hid hn'
  rw [hn'] at hwl
  have hb := wl_blk h
  have hxl := lt_of_block hb
  have c2 : w.cell? ⟨x, 3, none⟩ = some (.int .i64 m.x.size) := by rw [cells_at hb]; rfl
  have c4 : w.cell? ⟨x, 4, none⟩ = some (.slice aw n cw) := by rw [cells_at hb, ← hn']; rfl
  obtain ⟨tb, htb⟩ : ∃ tb, tb = blkB m.x.size m.x.wait := ⟨_, rfl⟩
  have CP0 : ∀ u, Gr w u → Calls Tryz.prog 173 #[.int .i64 m.x.size, .slice aw n cw] u fun e w' => e = .returned (.tuple #[.string T, .bool tb]) ∧ Gr w w' ∧ w'.cell? ⟨x, 3, none⟩ = some (.int .i64 m.x.size) ∧ w'.cell? ⟨x, 4, none⟩ = some (.slice aw n cw) := by
    intro u g
    have L := (row_lies hrw).gr g
    rw [hn'] at L
    rw [hT, htb]
    refine (fput_c L m.x.size (by unfold I64; omega) (by rw [hn']; omega) (fun r hr => by have := hwz r hr; omega)).mono ?_
    rintro e u2 ⟨rfl, g2⟩
    have hg := g.trans g2
    exact ⟨rfl, hg, by rw [hg.cell (p := ⟨x, 3, none⟩) hxl]; exact c2, by rw [hg.cell (p := ⟨x, 4, none⟩) hxl]; exact c4⟩
  have CP := Lib.hid CP0
  have CA := Lib.hid (fun (V : World) B1 (h1 : stars (wl x D P m.s m.b (wcells D P m.x (.slice none 0 0)) (.slice none 0 0) []) V B1) => does_at (f := 172) (Q := DiskA D (appendR m.s m.x.nm.data.toList T.data.toList).1) 2 rfl (frs_wl _ _ _ _ _ _ _ _) h1 fun B2 h2 => snk_add D m.s m.x.nm T hn hm hc (by omega) V B2 h2)
  have H := Lib.hid h
  have gW := Gr.refl w
  have gWd : Gr w w.drew := Below.drew gW
  obtain ⟨c, hcE⟩ : ∃ c, c = (appendR m.s m.x.nm.data.toList T.data.toList).2 := ⟨_, rfl⟩
  rw [← hcE] at CA ⊢
  have HCE := Lib.hid hcE
  clear h hrw hn' hb CP0 hT hTs htb hs1 hs2 hn hm hwz hc hcE
  go_enter Tryz.func143, Tryz.ntmps143
  go_wp2_with fail
  go_region_held3 (fun w' => w'.cell? ⟨x, 3, none⟩ = some (.int .i64 m.x.size) ∧ w'.cell? ⟨x, 4, none⟩ = some (.slice aw n cw)) (first | exact ⟨by assumption, by assumption⟩ | go_keep)
      ((go_at_call 173; (with_reducible refine (CP.out _ (by assumption)).mono ?_); rintro e w5 ⟨rfl, hg5, hu3, hu4⟩))
  have h5 := stars_gr (frs_wl _ _ _ _ _ _ _ _) H.out hg5
  have hb5 := wl_blk h5
  have f4 := cells_free hb5 4
  obtain ⟨B6, h6, n6⟩ := wl_set (c' := wcells D P m.x (.slice none 0 0)) 4 (.slice none 0 0) h5 rfl
  obtain ⟨B7, h7, n7⟩ := wl_none h6
  have k0 : w5.cell? ⟨x, 0, none⟩ = some (.pointer (some ⟨D, 0, none⟩)) := by rw [cells_at hb5]; rfl
  have k1 : w5.cell? ⟨x, 1, none⟩ = some (.string m.x.nm) := by rw [cells_at hb5]; rfl
  obtain ⟨V, hV⟩ : ∃ V, V = w5.setCell ⟨x, 4, none⟩ (.slice none 0 0) := ⟨_, rfl⟩
  rw [← hV] at h7 n6 n7
  have CA1 := Lib.hid (CA.out V B7 h7)
  have N7 := Lib.hid (((Nx.gr (B := B) hg5).trans n6).trans n7)
  have HV := Lib.hid hV
  clear h5 h6 h7 n6 n7 hb5 hg5 CP gW gWd hV CA hu3
  go_wp2_with fail
  rw [← HV.out]
  refine CA1.out.mono ?_; rintro e w8 hd
  obtain ⟨rfl, B8, h8, n8⟩ := hd
  have H8 := Lib.hid h8
  have N8 := Lib.hid (N7.out.trans n8)
  clear h8 n8 CA1
  go_wp2_with fail
  go_ret
  exact ⟨rfl, B8, ⟨_, H8.out⟩, N8.out⟩
theorem Nx.fewer {B B' B2 : Nat → Prop} {w w' : World} (h : Nx B w B' w') (k : ∀ b, B2 b → B' b) : Nx B w B2 w' := ⟨h.only, fun b hb => h.new b (k b hb)⟩
theorem wl_shut1 {x D P : Nat} {s : St} {b : Bu} {y : Ws} {vw : Value} {wait : List ByteArray} {w : World} {B : Nat → Prop} {n : Int} (hn : n = y.all.length) (h : stars (wl x D P s b (wshut n) vw wait) w B) : ∃ B', W3 x D P ⟨s, b, { y with opn := false }⟩ w B' ∧ ∀ b, B' b → B b := by
  obtain ⟨C1, C2, p, ⟨C3, C4, q, r, a2, e2⟩, a, e⟩ := h
  refine ⟨fun b => C1 b ∨ C4 b, ⟨C1, C4, .inr ⟨rfl, ?_⟩, r, fun b h1 h4 => a b h1 ((e2 b).2 (.inr h4)), fun _ => Iff.rfl⟩, fun b hb => ?_⟩
  · rw [hn] at p; exact p
  · rcases hb with hb | hb
    · exact (e b).2 (.inl hb)
    · exact (e b).2 (.inr ((e2 b).2 (.inr hb)))
theorem wl_shut {x D P : Nat} {s : St} {b : Bu} {y : Ws} {vw : Value} {wait : List ByteArray} {w : World} {B : Nat → Prop} (n : Int) (hn : n = y.all.length) (h : stars (wl x D P s b (wcells D P y vw) vw wait) w B) :
    ∃ B', W3 x D P ⟨s, b, { y with opn := false }⟩ (((((((w.setCell ⟨x, 0, none⟩ (.pointer none)).setCell ⟨x, 1, none⟩ (.string ⟨#[]⟩)).setCell ⟨x, 2, none⟩ (.pointer none)).setCell ⟨x, 3, none⟩ (.int .i64 0)).setCell ⟨x, 4, none⟩ (.slice none 0 0)).setCell ⟨x, 5, none⟩ (.int .i64 n)).setCell ⟨x, 6, none⟩ (.int .u32 0)) B' ∧
      Nx B w B' (((((((w.setCell ⟨x, 0, none⟩ (.pointer none)).setCell ⟨x, 1, none⟩ (.string ⟨#[]⟩)).setCell ⟨x, 2, none⟩ (.pointer none)).setCell ⟨x, 3, none⟩ (.int .i64 0)).setCell ⟨x, 4, none⟩ (.slice none 0 0)).setCell ⟨x, 5, none⟩ (.int .i64 n)).setCell ⟨x, 6, none⟩ (.int .u32 0)) := by
  obtain ⟨B0, h0, n0⟩ := wl_set (c' := #[.pointer none, .string y.nm, .pointer (some ⟨P, 0, none⟩), .int .i64 y.size, vw, .int .i64 y.all.length, .int .u32 (sumN y.all : Nat)]) 0 (.pointer none) h rfl
  generalize w.setCell ⟨x, 0, none⟩ (.pointer none) = w0 at h0 n0 ⊢
  obtain ⟨B1, h1, n1⟩ := wl_set (c' := #[.pointer none, .string ⟨#[]⟩, .pointer (some ⟨P, 0, none⟩), .int .i64 y.size, vw, .int .i64 y.all.length, .int .u32 (sumN y.all : Nat)]) 1 (.string ⟨#[]⟩) h0 rfl
  generalize w0.setCell ⟨x, 1, none⟩ (.string ⟨#[]⟩) = w1 at h1 n1 ⊢
  obtain ⟨B2, h2, n2⟩ := wl_set (c' := #[.pointer none, .string ⟨#[]⟩, .pointer none, .int .i64 y.size, vw, .int .i64 y.all.length, .int .u32 (sumN y.all : Nat)]) 2 (.pointer none) h1 rfl
  generalize w1.setCell ⟨x, 2, none⟩ (.pointer none) = w2 at h2 n2 ⊢
  obtain ⟨B3, h3, n3⟩ := wl_set (c' := #[.pointer none, .string ⟨#[]⟩, .pointer none, .int .i64 0, vw, .int .i64 y.all.length, .int .u32 (sumN y.all : Nat)]) 3 (.int .i64 0) h2 rfl
  generalize w2.setCell ⟨x, 3, none⟩ (.int .i64 0) = w3 at h3 n3 ⊢
  obtain ⟨B4, h4, n4⟩ := wl_set (c' := #[.pointer none, .string ⟨#[]⟩, .pointer none, .int .i64 0, .slice none 0 0, .int .i64 y.all.length, .int .u32 (sumN y.all : Nat)]) 4 (.slice none 0 0) h3 rfl
  generalize w3.setCell ⟨x, 4, none⟩ (.slice none 0 0) = w4 at h4 n4 ⊢
  obtain ⟨B5, h5, n5⟩ := wl_set (c' := #[.pointer none, .string ⟨#[]⟩, .pointer none, .int .i64 0, .slice none 0 0, .int .i64 n, .int .u32 (sumN y.all : Nat)]) 5 (.int .i64 n) h4 rfl
  generalize w4.setCell ⟨x, 5, none⟩ (.int .i64 n) = w5 at h5 n5 ⊢
  obtain ⟨B6, h6, n6⟩ := wl_set (c' := wshut n) 6 (.int .u32 0) h5 rfl
  generalize w5.setCell ⟨x, 6, none⟩ (.int .u32 0) = w6 at h6 n6 ⊢
  have n7 := (((((n0.trans n1).trans n2).trans n3).trans n4).trans n5).trans n6
  obtain ⟨B', h7, k⟩ := wl_shut1 hn h6
  exact ⟨B', h7, n7.fewer k⟩
set_option maxRecDepth 20000 in
set_option maxHeartbeats 2000000 in
theorem w_drop (x D P : Nat) (m : M3) (w : World) (B : Nat → Prop) (h : W3 x D P m w B) :
    Calls Tryz.prog 116 #[.pointer (some ⟨x, 0, none⟩)] w (Does w B (W3 x D P (dropM m)) (.tuple #[])) := by
  cases ho : m.x.opn
  · have e : dropM m = m := by unfold dropM; rw [ho]; rfl
    rw [e]
    have c0 : w.cell? ⟨x, 0, none⟩ = some (.pointer none) := by rw [cells_at (w3_shut ho h)]; rfl
    have CO := Lib.hid (wopen_no x w c0)
    have H := Lib.hid h
    clear h e ho c0
    go_enter Tryz.func116, Tryz.ntmps116
    go_wp2_with fail
    refine CO.out.mono ?_; rintro e w2 ⟨rfl, rfl⟩
    go_wp2_with fail
    go_end0
    exact ⟨rfl, B, H.out, Nx.refl _ _⟩
  · have e : dropM m = ⟨m.s, m.b.give 4, { m.x with opn := false }⟩ := by unfold dropM; rw [ho]; rfl
    rw [e]
    obtain ⟨vw, h⟩ := w3_open ho h
    have hb := wl_blk h
    have hxl := lt_of_block hb
    have CO := Lib.hid (wopen_yes x ⟨D, 0, none⟩ w (by rw [cells_at hb]; rfl))
    have c2 : w.cell? ⟨x, 2, none⟩ = some (.pointer (some ⟨P, 0, none⟩)) := by rw [cells_at hb]; rfl
    have C := does_at (f := 92) (Q := BuA P (m.b.give 4)) 3 rfl (frs_wl _ _ _ _ _ _ _ _) h fun B2 h2 => bu_give P m.b 4 w B2 h2
    have HC := Lib.hid C
    clear h hb C e ho
    go_enter Tryz.func116, Tryz.ntmps116
    go_wp2_with fail
    refine CO.out.mono ?_; rintro e w2 ⟨rfl, rfl⟩
    go_wp2_with fail
    refine HC.out.mono ?_; rintro e w2 hd
    obtain ⟨rfl, B2, h2, n2⟩ := hd
    have hb := wl_blk h2
    have c5 : w2.cell? ⟨x, 5, none⟩ = some (.int .i64 m.x.all.length) := by rw [cells_at hb]; rfl
    have f0 := cells_free hb 0
    have f1 := cells_free hb 1
    have f2 := cells_free hb 2
    have f3 := cells_free hb 3
    have f4 := cells_free hb 4
    have f5 := cells_free hb 5
    have f6 := cells_free hb 6
    have b0 : w2.cell? ⟨x, 0, none⟩ = some (.pointer (some ⟨D, 0, none⟩)) := by rw [cells_at hb]; rfl
    have b1 : w2.cell? ⟨x, 1, none⟩ = some (.string m.x.nm) := by rw [cells_at hb]; rfl
    have b2 : w2.cell? ⟨x, 2, none⟩ = some (.pointer (some ⟨P, 0, none⟩)) := by rw [cells_at hb]; rfl
    have b3 : w2.cell? ⟨x, 3, none⟩ = some (.int .i64 m.x.size) := by rw [cells_at hb]; rfl
    have b4 : w2.cell? ⟨x, 4, none⟩ = some vw := by rw [cells_at hb]; rfl
    have b6 : w2.cell? ⟨x, 6, none⟩ = some (.int .u32 (sumN m.x.all : Nat)) := by rw [cells_at hb]; rfl
    have SH := Lib.hid (wl_shut (y := m.x) (x := x) (D := D) (P := P) (s := m.s) (b := m.b.give 4) (wait := m.x.wait) m.x.all.length rfl h2)
    have N2 := Lib.hid n2
    clear h2 n2 hb HC
    go_wp2_with fail
    go_end0
    obtain ⟨B3, h3, n3⟩ := SH.out
    exact ⟨rfl, B3, h3, N2.out.trans n3⟩
end Go.Proofs.YtjplkmmhjfpdaaaGreatDoor
/- The program's writer: finish; what a close comes to. -/
namespace Go.Proofs.YtjplkmmhjfpdaaaGreatDoor
open Go.RowKit FsPlain CrcPlain OctPlain FramePlain RecPlain WrPlain
set_option linter.unusedVariables false
set_option linter.unusedSimpArgs false
set_option maxRecDepth 20000
def addM (m : M3) (T : ByteArray) : M3 × Int := if m.x.wait.length = 0 then (m, 0) else (⟨(appendR m.s m.x.nm.data.toList T.data.toList).1, m.b, m.x.none⟩, (appendR m.s m.x.nm.data.toList T.data.toList).2)
def finM (m : M3) (T E : ByteArray) : M3 × Int := if ¬ (addM m T).2 = 0 then addM m T else (⟨(endR (addM m T).1.s m.x.nm.data.toList E.data.toList).1, m.b, (addM m T).1.x⟩, (endR (addM m T).1.s m.x.nm.data.toList E.data.toList).2)
theorem addM_x (m : M3) (T : ByteArray) : (addM m T).1.x.nm = m.x.nm ∧ (addM m T).1.x.all = m.x.all ∧ (addM m T).1.x.opn = m.x.opn ∧ (addM m T).1.b = m.b ∧ (addM m T).1.x.size = m.x.size := by
  unfold addM; split <;> exact ⟨rfl, rfl, rfl, rfl, rfl⟩
theorem finM_x (m : M3) (T E : ByteArray) : (finM m T E).1.x.all = m.x.all ∧ (finM m T E).1.x.opn = m.x.opn ∧ (finM m T E).1.b = m.b := by
  have h := addM_x m T
  unfold finM; split
  · exact ⟨h.2.1, h.2.2.1, h.2.2.2.1⟩
  · exact ⟨h.2.1, h.2.2.1, rfl⟩
theorem shut_same {x D P : Nat} {m m' : M3} {w : World} {B : Nat → Prop} (hs : m.s = m'.s) (hb : m.b = m'.b) (ha : m.x.all = m'.x.all) (ho : m.x.opn = false) (ho' : m'.x.opn = false) (h : W3 x D P m w B) : W3 x D P m' w B := by
  obtain ⟨B1, B2, h1, h2, a, e⟩ := h
  rcases h1 with ⟨h1, _⟩ | ⟨_, h1⟩
  · rw [ho] at h1; cases h1
  · exact ⟨B1, B2, .inr ⟨ho', by rw [← ha]; exact h1⟩, by rw [← hs, ← hb]; exact h2, a, e⟩
theorem dropM_up {m : M3} (ho : m.x.opn = true) : dropM m = ⟨m.s, m.b.give 4, { m.x with opn := false }⟩ := by unfold dropM; rw [if_pos ho]
theorem fin_close {m : M3} {T E : ByteArray} (ho : m.x.opn = true) (hT : T = blkS m.x.size m.x.wait) (hE : E = peS m.x.all.length (sumN m.x.all)) :
    (dropM (finM m T E).1).s = (closeM m).1.s ∧ (dropM (finM m T E).1).b = (closeM m).1.b ∧ (dropM (finM m T E).1).x.all = (closeM m).1.x.all ∧ (dropM (finM m T E).1).x.opn = false ∧ (closeM m).1.x.opn = false ∧ (finM m T E).2 = (closeM m).2 := by
  have hfx := finM_x m T E
  have hd : dropM (finM m T E).1 = ⟨(finM m T E).1.s, m.b.give 4, { (finM m T E).1.x with opn := false }⟩ := by rw [dropM_up (by rw [hfx.2.1]; exact ho), hfx.2.2]
  rw [hd]
  simp only [hfx.1, true_and]
  have key : ∀ s x, x.opn = true → x.all = m.x.all → x.nm = m.x.nm → (closeM m = if ¬ (endM ⟨s, m.b, x⟩).2 = 0 then (dropM (endM ⟨s, m.b, x⟩).1, (endM ⟨s, m.b, x⟩).2) else (dropM (syncM (endM ⟨s, m.b, x⟩).1).1, (syncM (endM ⟨s, m.b, x⟩).1).2)) → (closeM m).1.s = (endR s m.x.nm.data.toList E.data.toList).1 ∧ (closeM m).1.b = m.b.give 4 ∧ (closeM m).1.x.all = m.x.all ∧ (closeM m).1.x.opn = false ∧ (closeM m).2 = (endR s m.x.nm.data.toList E.data.toList).2 := by
    intro s x hxo hxa hxn hcl
    have e0 : endM ⟨s, m.b, x⟩ = layM ⟨s, m.b, x⟩ E := by unfold endM; simp only [hxa]; rw [hE]
    rw [e0] at hcl
    have e1 : layM ⟨s, m.b, x⟩ E = if (appendR s m.x.nm.data.toList E.data.toList).2 = 0 then (⟨(appendR s m.x.nm.data.toList E.data.toList).1, m.b, x⟩, 0) else (dropM ⟨(appendR s m.x.nm.data.toList E.data.toList).1, m.b, x⟩, (appendR s m.x.nm.data.toList E.data.toList).2) := by
      unfold layM; simp only [hxn]
    rw [e1] at hcl
    unfold endR
    by_cases h0 : (appendR s m.x.nm.data.toList E.data.toList).2 = 0
    · rw [if_pos h0]
      rw [if_pos h0] at hcl
      simp only [not_true, if_false] at hcl
      rw [hcl, show dropM (syncM ⟨(appendR s m.x.nm.data.toList E.data.toList).1, m.b, x⟩).1 = ⟨(syncM ⟨(appendR s m.x.nm.data.toList E.data.toList).1, m.b, x⟩).1.s, m.b.give 4, { x with opn := false }⟩ from dropM_up hxo]
      unfold syncM
      simp only [hxn, hxa, and_true, true_and]
    · rw [if_neg h0]
      rw [if_neg h0] at hcl
      simp only [if_pos h0] at hcl
      have e2 : dropM ⟨(appendR s m.x.nm.data.toList E.data.toList).1, m.b, x⟩ = ⟨(appendR s m.x.nm.data.toList E.data.toList).1, m.b.give 4, { x with opn := false }⟩ := dropM_up hxo
      rw [e2] at hcl
      rw [hcl]
      simp [dropM, hxa, h0]
  have hcl0 : closeM m = if ¬ (flushM m).2 = 0 then flushM m else if ¬ (endM (flushM m).1).2 = 0 then (dropM (endM (flushM m).1).1, (endM (flushM m).1).2) else (dropM (syncM (endM (flushM m).1).1).1, (syncM (endM (flushM m).1).1).2) := by
    unfold closeM; rw [if_neg (by rw [ho]; decide)]
  by_cases hw : m.x.wait.length = 0
  · have hf : flushM m = (m, 0) := by unfold flushM; rw [if_pos hw]
    have ha : addM m T = (m, 0) := by unfold addM; rw [if_pos hw]
    rw [hf] at hcl0
    simp only [not_true, if_false] at hcl0
    obtain ⟨k1, k2, k3, k4, k5⟩ := key m.s m.x ho rfl rfl hcl0
    unfold finM
    rw [ha]
    simp only [not_true, if_false]
    exact ⟨k1.symm, k2.symm, k3.symm, k4, k5.symm⟩
  · by_cases h0 : (appendR m.s m.x.nm.data.toList T.data.toList).2 = 0
    · have hf : flushM m = (⟨(appendR m.s m.x.nm.data.toList T.data.toList).1, m.b, m.x⟩, 0) := by unfold flushM; rw [if_neg hw]; unfold layM; rw [← hT, if_pos h0]
      have ha : addM m T = (⟨(appendR m.s m.x.nm.data.toList T.data.toList).1, m.b, m.x.none⟩, 0) := by unfold addM; rw [if_neg hw, h0]
      rw [hf] at hcl0
      simp only [not_true, if_false] at hcl0
      obtain ⟨k1, k2, k3, k4, k5⟩ := key (appendR m.s m.x.nm.data.toList T.data.toList).1 m.x ho rfl rfl hcl0
      unfold finM
      rw [ha]
      simp only [not_true, if_false]
      exact ⟨k1.symm, k2.symm, k3.symm, k4, k5.symm⟩
    · have hf : flushM m = (dropM ⟨(appendR m.s m.x.nm.data.toList T.data.toList).1, m.b, m.x⟩, (appendR m.s m.x.nm.data.toList T.data.toList).2) := by unfold flushM; rw [if_neg hw]; unfold layM; rw [← hT, if_neg h0]
      have ha : addM m T = (⟨(appendR m.s m.x.nm.data.toList T.data.toList).1, m.b, m.x.none⟩, (appendR m.s m.x.nm.data.toList T.data.toList).2) := by unfold addM; rw [if_neg hw]
      rw [hf] at hcl0
      simp only [if_pos h0] at hcl0
      have e2 : dropM ⟨(appendR m.s m.x.nm.data.toList T.data.toList).1, m.b, m.x⟩ = ⟨(appendR m.s m.x.nm.data.toList T.data.toList).1, m.b.give 4, { m.x with opn := false }⟩ := dropM_up ho
      rw [hcl0, e2]
      unfold finM
      rw [ha]
      simp only [if_pos h0]
      simp
structure FinPre (m : M3) : Prop where
  n1 : m.x.nm.size ≤ 24
  n2 : rightB m.x.nm.data.toList = true
  c : m.s.calls ≤ 100000000000
set_option maxRecDepth 20000 in
set_option maxHeartbeats 4000000 in
theorem w_finish (x D P : Nat) (m : M3) (T E : ByteArray) (k s : Nat) (hT : T = blkS m.x.size m.x.wait) (hE : E = peS k s) (hTs : T.size ≤ 300) (hEs : E.size ≤ 300) (hk : k = m.x.all.length) (hs : s = sumN m.x.all) (hal : m.x.all.length ≤ 100000) (hm : m.ok) (hc : m.s.calls ≤ 100000000000) (w : World) (B : Nat → Prop) (h : WO x D P m w B) :
    Calls Tryz.prog 144 #[.pointer (some ⟨x, 0, none⟩), .agg #[.int .i64 (k : Nat), .int .u32 (s : Nat)]] w (Does w B (WO x D P (finM m T E).1) (.int .i64 (finM m T E).2)) := by
  obtain ⟨M, hM⟩ : ∃ M, M = finM m T E := ⟨_, rfl⟩
  rw [← hM]
  have hz := hm.z
  have hz2 : 1 ≤ m.x.size ∧ m.x.size ≤ 64 := by simpa [sizeB] using hz
  have HQ := Lib.hid (show FinPre m from ⟨hm.n1, hm.n2, hc⟩)
  have HES := Lib.hid (show E.size ≤ 1000000000 by omega)
  have CE := Lib.hid (fun u => by have := fputend_c k (by unfold I64; omega) s (by rw [hs]; exact sumN_lt _) u; rw [← hE] at this; exact this)
  have CB := Lib.hid (fun w1 B1 (h1 : WO x D P m w1 B1) => w_block x D P m T hT hTs hz2.1 hz2.2 hm.n1 hm.n2 (by have := hm.wl; omega) hm.wz (by omega) w1 B1 h1)
  obtain ⟨W, hW⟩ : ∃ W, W = w.alloc (.cells #[.int .i64 (k : Nat), .int .u32 (s : Nat)] 37) := ⟨_, rfl⟩
  have g : Gr w W := by rw [hW]; exact Below.alloc (Below.refl _ _) (Nat.le_refl _) _
  have hlt : w.heap.size < W.heap.size := by rw [hW, World.size_alloc]; omega
  have q0 : W.cell? ⟨w.heap.size, 0, none⟩ = some (.int .i64 (k : Nat)) := by rw [hW, World.cell?_alloc_mark]; rfl
  have q1 : W.cell? ⟨w.heap.size, 1, none⟩ = some (.int .u32 (s : Nat)) := by rw [hW, World.cell?_alloc_mark]; rfl
  have hnb : ¬ B w.heap.size := fun hb => by have := (fr_wo _ _ _ _).lo h _ hb; omega
  have hx0 : x < w.heap.size := by obtain ⟨vw, h⟩ := h; exact lt_of_block (wl_blk h)
  have h1 := star_gr (fr_wo x D P m) h g
  have HWO := Lib.hid h1
  obtain ⟨vw, h1⟩ := h1
  obtain ⟨_, hrw, _⟩ := part_at 1 rfl h1
  obtain ⟨aw, cw, rfl, _⟩ := rowE_shape hrw
  obtain ⟨n, hn⟩ : ∃ n, m.x.wait.length = n := ⟨_, rfl⟩
  have HN := Lib.hid hn
  have hb := wl_blk h1
  have hxl := lt_of_block hb
  have c4 : w.cell? ⟨x, 4, none⟩ = some (.slice aw n cw) := by rw [← g.cell (p := ⟨x, 4, none⟩) hx0, cells_at hb, ← hn]; rfl
  have HW := Lib.hid hW
  have HNB := Lib.hid hnb
  have H1 := Lib.hid h1
  have N1 := Lib.hid (Nx.gr (B := B) g)
  have HMM := Lib.hid hM
  clear hrw hn hb h1 hnb hW hM h hT hE hTs hEs hk hs hal hm hc hz hz2 g
  by_cases h0 : n = 0
  · subst h0
    have HM := Lib.hid (show M = (⟨(endR m.s m.x.nm.data.toList E.data.toList).1, m.b, m.x⟩, (endR m.s m.x.nm.data.toList E.data.toList).2) by
      rw [HMM.out]
      have ha : addM m T = (m, 0) := by unfold addM; rw [if_pos HN.out]
      unfold finM; rw [ha]; simp only [not_true, if_false])
    go_enter Tryz.func144, Tryz.ntmps144
    go_wp2_with fail
    rw [← HW.out]
    refine (CE.out _).mono ?_; rintro e u ⟨rfl, gu⟩
    have hu := stars_gr (frs_wl _ _ _ _ _ _ _ _) H1.out gu
    have hbu := wl_blk hu
    have z0 : u.cell? ⟨x, 0, none⟩ = some (.pointer (some ⟨D, 0, none⟩)) := by rw [cells_at hbu]; rfl
    have z1 : u.cell? ⟨x, 1, none⟩ = some (.string m.x.nm) := by rw [cells_at hbu]; rfl
    have CN := Lib.hid (does_at (f := 175) (Q := DiskA D (endR m.s m.x.nm.data.toList E.data.toList).1) 2 rfl (frs_wl _ _ _ _ _ _ _ _) hu fun B2 h2 => snk_end D m.s m.x.nm E HQ.out.n1 HQ.out.n2 (by have := HQ.out.c; omega) (by have := HQ.out.c; have := append_calls m.s m.x.nm.data.toList E.data.toList; omega) HES.out u B2 h2)
    have NU := Lib.hid (N1.out.trans (Nx.gr gu))
    clear hu hbu gu
    go_wp2_with fail
    refine CN.out.mono ?_; rintro e w9 hd
    obtain ⟨rfl, B9, h9, n9⟩ := hd
    have H9 := Lib.hid h9
    have N9 := Lib.hid (NU.out.trans n9)
    clear h9 n9 CN
    go_wp2_with fail
    go_ret
    refine ⟨?_, B9, ?_, N9.out⟩
    · rw [HM.out]; rfl
    · rw [HM.out]; exact ⟨_, H9.out⟩
  · have hpos : (0 : Int) < (n : Int) := by omega
    have hpos2 : ¬ m.x.wait.length = 0 := by have := HN.out; omega
    have HP2 := Lib.hid hpos2
    have CB1 := CB.out W B HWO.out
    obtain ⟨⟨s1, e1⟩, hR⟩ : ∃ R, R = appendR m.s m.x.nm.data.toList T.data.toList := ⟨_, rfl⟩
    rw [← hR] at CB1
    have CBH := Lib.hid CB1
    have HR := Lib.hid hR
    clear CB1 hR hpos2 h0
    by_cases h1 : e1 = 0
    · subst h1
      have HM := Lib.hid (show M = (⟨(endR s1 m.x.nm.data.toList E.data.toList).1, m.b, m.x.none⟩, (endR s1 m.x.nm.data.toList E.data.toList).2) by
        rw [HMM.out]
        have ha : addM m T = (⟨s1, m.b, m.x.none⟩, 0) := by unfold addM; rw [if_neg HP2.out, ← HR.out]
        unfold finM; rw [ha]; simp only [not_true, if_false])
      have HS1 := Lib.hid (show s1.calls = m.s.calls + 1 by have := append_calls m.s m.x.nm.data.toList T.data.toList; rw [← HR.out] at this; exact this)
      go_enter Tryz.func144, Tryz.ntmps144
      go_wp2_with fail
      rw [← HW.out]
      refine CBH.out.mono ?_; rintro e w2 hd
      obtain ⟨rfl, B2, h2, n2⟩ := hd
      have d0 := (n2.only.cell (p := ⟨w.heap.size, 0, none⟩) hlt HNB.out).trans q0
      have d1 := (n2.only.cell (p := ⟨w.heap.size, 1, none⟩) hlt HNB.out).trans q1
      obtain ⟨vw2, h2⟩ := h2
      have H2 := Lib.hid h2
      have N2 := Lib.hid (N1.out.trans n2)
      clear h2 n2 CBH q0 q1 c4 hlt
      go_wp2_with fail
      refine (CE.out _).mono ?_; rintro e u ⟨rfl, gu⟩
      have hu := stars_gr (frs_wl _ _ _ _ _ _ _ _) H2.out gu
      have hbu := wl_blk hu
      have z0 : u.cell? ⟨x, 0, none⟩ = some (.pointer (some ⟨D, 0, none⟩)) := by rw [cells_at hbu]; rfl
      have z1 : u.cell? ⟨x, 1, none⟩ = some (.string m.x.nm) := by rw [cells_at hbu]; rfl
      have CN := Lib.hid (does_at (f := 175) (Q := DiskA D (endR s1 m.x.nm.data.toList E.data.toList).1) 2 rfl (frs_wl _ _ _ _ _ _ _ _) hu fun B2 h2 => snk_end D s1 m.x.nm E HQ.out.n1 HQ.out.n2 (by have := HQ.out.c; have := HS1.out; omega) (by have := HQ.out.c; have := HS1.out; have := append_calls s1 m.x.nm.data.toList E.data.toList; omega) HES.out u B2 h2)
      have NU := Lib.hid (N2.out.trans (Nx.gr gu))
      clear hu hbu gu
      go_wp2_with fail
      refine CN.out.mono ?_; rintro e w9 hd
      obtain ⟨rfl, B9, h9, n9⟩ := hd
      have H9 := Lib.hid h9
      have N9 := Lib.hid (NU.out.trans n9)
      clear h9 n9 CN
      go_wp2_with fail
      go_ret
      refine ⟨?_, B9, ?_, N9.out⟩
      · rw [HM.out]; rfl
      · rw [HM.out]; exact ⟨_, H9.out⟩
    · have t1 : (e1 == 0) = false := by simpa using h1
      have t2 : (e1 != 0) = true := by simpa using h1
      have HM := Lib.hid (show M = (⟨s1, m.b, m.x.none⟩, e1) by
        rw [HMM.out]
        have ha : addM m T = (⟨s1, m.b, m.x.none⟩, e1) := by unfold addM; rw [if_neg HP2.out, ← HR.out]
        unfold finM; rw [ha]; simp only [if_pos h1])
      clear h1
      go_enter Tryz.func144, Tryz.ntmps144
      go_wp2_with fail
      rw [← HW.out]
      refine CBH.out.mono ?_; rintro e w2 hd
      obtain ⟨rfl, B2, h2, n2⟩ := hd
      have H2 := Lib.hid h2
      have N2 := Lib.hid (N1.out.trans n2)
      clear h2 n2 CBH q0 q1 c4
      go_wp2_with fail
      go_ret
      refine ⟨?_, B2, ?_, N2.out⟩
      · rw [HM.out]; rfl
      · rw [HM.out]; exact H2.out
end Go.Proofs.YtjplkmmhjfpdaaaGreatDoor
/- What both writers, the program's and the document's, walk with. -/
namespace Go.Proofs.YtjplkmmhjfpdaaaGreatDoor
open Go.RowKit FsPlain CrcPlain OctPlain FramePlain RecPlain WrPlain
set_option linter.unusedVariables false
set_option linter.unusedSimpArgs false
set_option maxRecDepth 20000
theorem blkS_le {size : Int} {l : List ByteArray} (hz : sizeB size = true) (hl : l.length ≤ 4) (ha : ∀ s ∈ l, (s.size : Int) = size) : (blkS size l).size ≤ 300 := by
  have hs : 1 ≤ size ∧ size ≤ 64 := by simpa [sizeB] using hz
  cases hb : blkB size l
  · rw [blkS_no hb]; decide
  · rw [blkS_yes hb, cl_size, blk_size]
    have := cat_le (l := l) fun s h => by have := ha s h; omega
    omega
theorem all_snoc {m : M3} (h : m.ok) {r : ByteArray} (hz : (r.size : Int) = m.x.size) : ∀ q ∈ m.x.wait ++ [r], (q.size : Int) = m.x.size := fun q hq => by
  rcases List.mem_append.1 hq with hq | hq
  · exact h.wz q hq
  · rw [List.mem_singleton.1 hq]; exact hz
def infoC (n s : Int) : Array Value := #[.int .i64 n, .int .u32 s]
theorem Nx.less {B B' B2 : Nat → Prop} {w w' : World} (h : Nx B w B' w') (k : ∀ b, B2 b → B' b) : Nx B w B2 w' := ⟨h.only, fun b hb => h.new b (k b hb)⟩
theorem info_ret {fn : Func} {p q : Tmp} (hr : fn.results = #[.cell p 37, .tmp q]) {tmps : Array Value} {B : Nat} {W : World} {x y : Int} {v : Value} (hp : tmps.getD p undef = .pointer (some ⟨B, 0, none⟩)) (hq : tmps.getD q undef = v)
    (c0 : W.cell? ⟨B, 0, none⟩ = some (.int .i64 x)) (c1 : W.cell? ⟨B, 1, none⟩ = some (.int .u32 y)) : (results fn tmps).run Tryz.prog W = .ok (.tuple #[.agg #[.int .i64 x, .int .u32 y], v]) W := by
  rw [results_cell_tmp hr, hp, hq]
  simp [go_sem, c0, c1]
theorem peS_le (c : Int) (m : Nat) : (peS c m).size ≤ 300 := by
  cases h : peB c
  · rw [peS_no h]; decide
  · rw [peS_yes h, cl_size, endS_size]; decide
theorem headS_le (size : Int) : (headS size).size ≤ 1000000000 := by rw [headS_size]; decide
end Go.Proofs.YtjplkmmhjfpdaaaGreatDoor
/- The program's writer: Put. -/
namespace Go.Proofs.YtjplkmmhjfpdaaaGreatDoor
open Go.RowKit FsPlain CrcPlain OctPlain FramePlain RecPlain WrPlain
set_option linter.unusedVariables false
set_option linter.unusedSimpArgs false
set_option maxRecDepth 20000
theorem w_put_shut (x D P : Nat) (m : M3) (r : ByteArray) (ho : m.x.opn = false) (w : World) (B : Nat → Prop) (h : W3 x D P m w B) :
    Calls Tryz.prog 117 #[.pointer (some ⟨x, 0, none⟩), .string r] w (Does w B (W3 x D P (putM m r).1) (.int .i64 (putM m r).2)) := by
  have e : putM m r = (m, 14) := by unfold putM; rw [if_pos ho]
  rw [e]
  have H := Lib.hid h
  have CO := Lib.hid (wopen_no x w (by rw [cells_at (w3_shut ho h)]; rfl))
  clear h e ho
  go_enter Tryz.func117, Tryz.ntmps117
  go_wp2_with fail
  refine CO.out.mono ?_; rintro e w2 ⟨rfl, rfl⟩
  go_wp2_with fail
  go_ret
  exact ⟨rfl, B, H.out, Nx.refl _ _⟩
theorem w_put_bad (x D P : Nat) (m : M3) (r : ByteArray) (ho : m.x.opn = true) (hz : ¬ (r.size : Int) = m.x.size) (w : World) (B : Nat → Prop) (h : W3 x D P m w B) :
    Calls Tryz.prog 117 #[.pointer (some ⟨x, 0, none⟩), .string r] w (Does w B (W3 x D P (putM m r).1) (.int .i64 (putM m r).2)) := by
  have e : putM m r = (m, 1) := by unfold putM; rw [if_neg (by rw [ho]; decide), if_pos hz]
  rw [e]
  have H := Lib.hid h
  obtain ⟨vw, h1⟩ := w3_open ho h
  have hb := wl_blk h1
  have CO := Lib.hid (wopen_yes x ⟨D, 0, none⟩ w (by rw [cells_at hb]; rfl))
  have c3 : w.cell? ⟨x, 3, none⟩ = some (.int .i64 m.x.size) := by rw [cells_at hb]; rfl
  have t1 : ((r.size : Int) == m.x.size) = false := by simpa using hz
  have t2 : ((r.size : Int) != m.x.size) = true := by simpa using hz
  clear h h1 hb e ho
  go_enter Tryz.func117, Tryz.ntmps117
  go_wp2_with fail
  refine CO.out.mono ?_; rintro e w2 ⟨rfl, rfl⟩
  go_wp2_with fail
  go_ret
  exact ⟨rfl, B, H.out, Nx.refl _ _⟩
set_option maxRecDepth 20000 in
set_option maxHeartbeats 4000000 in
theorem w_put_in (x D P : Nat) (m : M3) (r : ByteArray) (hm : m.ok) (hal : m.x.all.length ≤ 100000) (hc : m.s.calls ≤ 100000000000) (ho : m.x.opn = true) (hz : (r.size : Int) = m.x.size) (w : World) (B : Nat → Prop) (h : W3 x D P m w B) :
    Calls Tryz.prog 117 #[.pointer (some ⟨x, 0, none⟩), .string r] w (Does w B (W3 x D P (putM m r).1) (.int .i64 (putM m r).2)) := by
  obtain ⟨M, hM⟩ : ∃ M, M = putM m r := ⟨_, rfl⟩
  rw [← hM]
  have HM := Lib.hid hM
  have hsz : 1 ≤ m.x.size ∧ m.x.size ≤ 64 := by have := hm.z; simpa [sizeB] using this
  have HO := Lib.hid ho
  have h1 := w3_open ho h
  have CQ := Lib.hid (w_queue x D P m r hm.wl hal (by omega) w B h1)
  obtain ⟨vw, h1⟩ := h1
  have hb := wl_blk h1
  have CO := Lib.hid (wopen_yes x ⟨D, 0, none⟩ w (by rw [cells_at hb]; rfl))
  have c3 : w.cell? ⟨x, 3, none⟩ = some (.int .i64 m.x.size) := by rw [cells_at hb]; rfl
  have t1 : ((r.size : Int) == m.x.size) = true := by simpa using hz
  have t2 : ((r.size : Int) != m.x.size) = false := by simpa using hz
  obtain ⟨n, hn⟩ : ∃ n, (m.x.wait ++ [r]).length = n := ⟨_, rfl⟩
  have hnl : n = m.x.wait.length + 1 := by rw [← hn, List.length_append]; rfl
  have HN := Lib.hid hn
  obtain ⟨T, hT⟩ : ∃ T, T = blkS m.x.size (m.x.wait ++ [r]) := ⟨_, rfl⟩
  have hTs : T.size ≤ 300 := by rw [hT]; exact blkS_le hm.z (by have := hm.wl; omega) (all_snoc hm hz)
  have CB := Lib.hid (fun w1 B1 (h1 : WO x D P ⟨m.s, m.b, m.x.put r⟩ w1 B1) => w_block x D P ⟨m.s, m.b, m.x.put r⟩ T hT hTs hsz.1 hsz.2 hm.n1 hm.n2 (by show (m.x.wait ++ [r]).length ≤ 1000; have := hm.wl; omega) (all_snoc hm hz) (by show m.s.calls ≤ _; omega) w1 B1 h1)
  have HP : Hid (M = if m.x.wait.length < 3 then (⟨m.s, m.b, m.x.put r⟩, 0) else layM ⟨m.s, m.b, (m.x.put r).none⟩ T) := Lib.hid (by
    rw [hM, hT]; unfold putM; rw [if_neg (by rw [ho]; decide), if_neg (by simpa using hz)])
  have HNL := Lib.hid hnl
  have hn4 : n ≤ 4 := by have := hm.wl; omega
  clear h h1 hb ho hz hM hn hnl hT hTs hm hal hc
  go_enter Tryz.func117, Tryz.ntmps117
  go_wp2_with fail
  refine CO.out.mono ?_; rintro e w2 ⟨rfl, rfl⟩
  go_wp2_with fail
  refine CQ.out.mono ?_; rintro e w3 hd
  obtain ⟨rfl, B3, h3, n3⟩ := hd
  have H3 := Lib.hid h3
  have N3 := Lib.hid n3
  obtain ⟨vw3, h3⟩ := h3
  obtain ⟨_, hrw, _⟩ := part_at 1 rfl h3
  obtain ⟨aw, cw, rfl, _⟩ := rowE_shape hrw
  have hb3 := wl_blk h3
  have c4 : w3.cell? ⟨x, 4, none⟩ = some (.slice aw n cw) := by rw [cells_at hb3, ← HN.out]; rfl
  clear h3 n3 hb3 hrw CQ CO c3
  by_cases hlt : n < 4
  · have hlt' : (n : Int) < 4 := by omega
    obtain rfl : M = (⟨m.s, m.b, m.x.put r⟩, 0) := by rw [HP.out, if_pos (by have := HNL.out; omega)]
    go_wp2_with fail
    go_ret
    exact ⟨rfl, B3, w3_close (m := ⟨m.s, m.b, m.x.put r⟩) HO.out H3.out, N3.out⟩
  · have hlt' : ¬ (n : Int) < 4 := by omega
    have hge : (4 : Int) ≤ (n : Int) := by omega
    have CB1 := CB.out w3 B3 H3.out
    have hM : M = layM ⟨m.s, m.b, (m.x.put r).none⟩ T := by rw [HP.out, if_neg (by have := HNL.out; omega)]
    unfold layM at hM
    obtain ⟨⟨s1, e1⟩, hR⟩ : ∃ R, R = appendR m.s m.x.nm.data.toList T.data.toList := ⟨_, rfl⟩
    have e1' : appendR (M3.mk m.s m.b (m.x.put r)).s (M3.mk m.s m.b (m.x.put r)).x.nm.data.toList T.data.toList = (s1, e1) := hR.symm
    have e2' : appendR (M3.mk m.s m.b (m.x.put r).none).s (M3.mk m.s m.b (m.x.put r).none).x.nm.data.toList T.data.toList = (s1, e1) := hR.symm
    rw [e1'] at CB1
    rw [e2'] at hM
    have CBH := Lib.hid CB1
    have HM2 := Lib.hid hM
    clear hM CB1 e1' e2' hR HM CB
    go_wp2_with fail
    refine CBH.out.mono ?_; rintro e w4 hd
    obtain ⟨rfl, B4, h4, n4⟩ := hd
    have h5 := w3_close (m := ⟨s1, m.b, (m.x.put r).none⟩) HO.out h4
    have H5 := Lib.hid h5
    have N5 := Lib.hid (N3.out.trans n4)
    have CD := Lib.hid (w_drop x D P ⟨s1, m.b, (m.x.put r).none⟩ w4 B4 h5)
    clear h4 n4 h5 CBH
    by_cases h0 : e1 = 0
    · subst h0
      obtain rfl : M = (⟨s1, m.b, (m.x.put r).none⟩, 0) := by rw [HM2.out, if_pos rfl]
      go_wp2_with fail
      go_ret
      exact ⟨rfl, B4, H5.out, N5.out⟩
    · have t3 : (e1 == 0) = false := by simpa using h0
      have t4 : (e1 != 0) = true := by simpa using h0
      obtain rfl : M = (dropM ⟨s1, m.b, (m.x.put r).none⟩, e1) := by rw [HM2.out, if_neg h0]
      clear h0
      go_wp2_with fail
      refine CD.out.mono ?_; rintro e w6 hd
      obtain ⟨rfl, B6, h6, n6⟩ := hd
      have H6 := Lib.hid h6
      have N6 := Lib.hid (N5.out.trans n6)
      clear h6 n6 CD
      go_wp2_with fail
      go_ret
      exact ⟨rfl, B6, H6.out, N6.out⟩
theorem w_put (x D P : Nat) (m : M3) (r : ByteArray) (hm : m.ok) (hal : m.x.all.length ≤ 100000) (hc : m.s.calls ≤ 100000000000) (w : World) (B : Nat → Prop) (h : W3 x D P m w B) :
    Calls Tryz.prog 117 #[.pointer (some ⟨x, 0, none⟩), .string r] w (Does w B (W3 x D P (putM m r).1) (.int .i64 (putM m r).2)) := by
  cases ho : m.x.opn
  · exact w_put_shut x D P m r ho w B h
  · by_cases hz : (r.size : Int) = m.x.size
    · exact w_put_in x D P m r hm hal hc ho hz w B h
    · exact w_put_bad x D P m r ho hz w B h
end Go.Proofs.YtjplkmmhjfpdaaaGreatDoor
