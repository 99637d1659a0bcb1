/- In one text: CmRef, Parts. -/
import Derived.Test.YtckmciafonnohaaGreatP07
import Derived.Test.YtckmciafonnohaaGreatP13
import Derived.Test.YtckmciafonnohaaGreatP14
import Derived.Test.YtckmciafonnohaaGreatP32
import Derived.Test.YtckmciafonnohaaGreatP20
/- The document's answers of layer 20: Save. -/
namespace Go.Proofs.YtckmciafonnohaaGreat
open Go.RowKit FsPlain CrcPlain OctPlain MnPlain CmPlain
set_option linter.unusedVariables false
set_option linter.unusedSimpArgs false
set_option maxRecDepth 20000
namespace CmPlain
/-- Save of a manifest. -/
def saveR (s : St) (m : Mn) : St × Int := if mnB m = true then saveS s (ptS m).data.toList else (s, 1)
end CmPlain
def wayS : ByteArray := ⟨#[109, 97, 110, 105, 102, 101, 115, 116, 46, 110, 101, 119]⟩
def nameS : ByteArray := ⟨#[109, 97, 110, 105, 102, 101, 115, 116]⟩
/-- The disk as it is behind some calls. -/
def RAt20 (d : Nat) (B : Nat → Prop) (w : World) (s : St) (w' : World) : Prop := ∃ B', RDiskA d s w' B' ∧ Nx B w B' w'
theorem rat20 {d : Nat} {B B1 : Nat → Prop} {w u w' : World} {t : St} {v : Value} {e : Ending} (h : Nx B w B1 u) (k : Does u B1 (RDiskA d t) v e w') : e = .returned v ∧ RAt20 d B w t w' := by
  obtain ⟨rfl, B2, h2, n2⟩ := k
  exact ⟨rfl, B2, h2, h.trans n2⟩
set_option maxHeartbeats 8000000 in
theorem rsave20_c (d : Nat) (s : St) (m : Mn) {a : Option Addr} {n c : Nat} (w : World) (B : Nat → Prop) (hd : RDiskA d s w B) (h1 : s.calls ≤ 1000000000) (h : LiesFl w (.slice a n c) m.files) (hl : m.files.length ≤ maxLen) (hK : ∀ f ∈ m.files, flK f) (hs : I64 m.stage) (hp : I64 m.pass) :
    Calls Tryz.prog 15 #[.pointer (some ⟨d, 0, none⟩), .agg #[.int .i64 m.stage, .int .i64 m.pass, .slice a n c]] w fun e w' => e = .returned (.int .i64 (saveR s m).2) ∧ RAt20 d B w (saveR s m).1 w' := by
  have g0 := gr19 w (.cells #[.int .i64 m.stage, .int .i64 m.pass, .slice a n c] 36)
  have PT := Lib.hid (rput19_c m _ (h.gr g0) hl hK hs hp)
  obtain ⟨x, hx⟩ : ∃ x, ptS m = x := ⟨_, rfl⟩
  have hxs := ptS_size (m := m)
  obtain ⟨mb, hmb⟩ : ∃ b, mnB m = b := ⟨_, rfl⟩
  unfold saveR
  rw [hx, hmb] at PT ⊢
  rw [hx] at hxs
  have GD := Lib.hid (fun u (g : Gr (w.alloc (.cells #[.int .i64 m.stage, .int .i64 m.pass, .slice a n c] 36)) u) => (⟨star_gr (fr_rdisk d s) hd (g0.trans g), Nx.gr (g0.trans g)⟩ : RDiskA d s u B ∧ Nx B w B u))
  clear h hl hK hs hp hx hmb g0 hd
  cases mb with
  | false =>
    go_enter Tryz.func15, Tryz.ntmps15
    go_wp2_with fail
    refine PT.out.mono ?_; rintro e u ⟨rfl, g⟩
    have G := Lib.hid (GD.out u g)
    clear g
    go_wp2_with fail
    go_ret
    exact ⟨rfl, B, G.out.1, G.out.2⟩
  | true =>
    rw [if_pos rfl]
    obtain ⟨T, hT⟩ : ∃ T, saveS s x.data.toList = T := ⟨_, rfl⟩
    rw [hT]
    rw [save_run] at hT
    have hcg := calls_gone s
    obtain ⟨r1, hr1⟩ : ∃ r, (sizeR s wayL).1 = r := ⟨_, rfl⟩
    obtain ⟨e1, he1⟩ : ∃ r, (sizeR s wayL).2 = r := ⟨_, rfl⟩
    have SZ := Lib.hid (fun u B1 (hu : RDiskA d s u B1) => (show Calls Tryz.prog 39 #[.pointer (some ⟨d, 0, none⟩), .string wayS] u (Does u B1 (RDiskA d s.call) (.tuple #[.int .i64 r1, .int .i64 e1])) from by
      have := r_size d s wayS (by decide) way_right (by omega) u B1 hu
      rw [← hr1, ← he1]
      exact this))
    have RM := Lib.hid (fun u B1 (hu : RDiskA d s.call u B1) => (show Calls Tryz.prog 40 #[.pointer (some ⟨d, 0, none⟩), .string wayS] u (Does u B1 (RDiskA d (removeR s.call wayL).1) (.int .i64 (removeR s.call wayL).2)) from r_remove d s.call wayS (by decide) way_right (by show s.calls + 1 ≤ _; omega) u B1 hu))
    have CR := Lib.hid (fun t u B1 (hc : t.calls ≤ 1000000010) (hu : RDiskA d t u B1) => (show Calls Tryz.prog 9 #[.pointer (some ⟨d, 0, none⟩), .string wayS] u (Does u B1 (RDiskA d (createR t wayL).1) (.int .i64 (createR t wayL).2)) from r_create d t wayS (by decide) way_right (by omega) u B1 hu))
    have AP := Lib.hid (fun t u B1 (hc : t.calls ≤ 1000000010) (hu : RDiskA d t u B1) => (show Calls Tryz.prog 11 #[.pointer (some ⟨d, 0, none⟩), .string wayS, .string x] u (Does u B1 (RDiskA d (appendR t wayL x.data.toList).1) (.int .i64 (appendR t wayL x.data.toList).2)) from r_append d t wayS x (by decide) way_right (by omega) (by omega) u B1 hu))
    have SY := Lib.hid (fun t u B1 (hc : t.calls ≤ 1000000010) (hu : RDiskA d t u B1) => (show Calls Tryz.prog 41 #[.pointer (some ⟨d, 0, none⟩), .string wayS] u (Does u B1 (RDiskA d (syncR t wayL).1) (.int .i64 (syncR t wayL).2)) from r_sync d t wayS (by decide) way_right (by omega) u B1 hu))
    have RN := Lib.hid (fun t u B1 (hc : t.calls ≤ 1000000010) (hu : RDiskA d t u B1) => (show Calls Tryz.prog 42 #[.pointer (some ⟨d, 0, none⟩), .string wayS, .string nameS] u (Does u B1 (RDiskA d (renameR t wayL nameL).1) (.int .i64 (renameR t wayL nameL).2)) from r_rename d t wayS nameS (by decide) way_right (by decide) name_right (by omega) u B1 hu))
    unfold wayS nameS at *
    have HT := Lib.hid hT
    have HC := Lib.hid hcg
    have H1 := Lib.hid h1
    clear hT hcg h1 hr1 hxs
    by_cases e0 : e1 = 0
    · have HG0 : goneR s = removeR s.call wayL := by unfold goneR; rw [he1, if_pos e0]
      have HT1 := HT.out
      rw [HG0] at HT1
      have HC2 := HC.out
      rw [HG0] at HC2
      subst e0
      clear HG0 he1 HT HC
      go_enter Tryz.func15, Tryz.ntmps15
      go_wp2_with fail
      refine PT.out.mono ?_; rintro e u0 ⟨rfl, g⟩
      have G0 := Lib.hid (GD.out u0 g)
      clear g
      have K1 := Lib.hid (SZ.out u0 B G0.out.1)
      go_wp2_with fail
      refine K1.out.mono ?_; rintro e u1 ⟨rfl, B1, d1, n1⟩
      have D1 := Lib.hid (show RDiskA d s.call u1 B1 ∧ Nx B w B1 u1 from ⟨d1, G0.out.2.trans n1⟩)
      clear d1 n1 K1
      have K1 := Lib.hid (RM.out u1 B1 D1.out.1)
      obtain ⟨⟨s2, e2⟩, q2⟩ : ∃ p, removeR s.call wayL = p := ⟨_, rfl⟩
      rw [q2] at K1 HT1 HC2
      have HC2 := Lib.hid HC2
      clear q2
      go_wp2_with fail
      refine K1.out.mono ?_; rintro e u2 ⟨rfl, B2, dd, nn⟩
      have D2 := Lib.hid (show RDiskA d s2 u2 B2 ∧ Nx B w B2 u2 from ⟨dd, D1.out.2.trans nn⟩)
      clear dd nn K1
      by_cases ee : e2 = 0
      · subst ee
        have HT2 := Lib.hid ((runR_ok _ _ rfl).symm.trans HT1)
        clear HT1
        have K2 := Lib.hid (CR.out s2 u2 B2 (by have := HC2.out; have := H1.out; omega) D2.out.1)
        have HC3 := Lib.hid (show (createR s2 wayL).1.calls ≤ s.calls + 3 by rw [calls_create _ _]; have := HC2.out; omega)
        obtain ⟨⟨s3, e3⟩, q3⟩ : ∃ p, createR s2 wayL = p := ⟨_, rfl⟩
        rw [q3] at K2 HC3
        have HT3 := HT2.out
        simp only [q3] at HT3
        clear q3
        go_wp2_with fail
        refine K2.out.mono ?_; rintro e u3 ⟨rfl, B3, dd, nn⟩
        have D3 := Lib.hid (show RDiskA d s3 u3 B3 ∧ Nx B w B3 u3 from ⟨dd, D2.out.2.trans nn⟩)
        clear dd nn K2
        by_cases ee : e3 = 0
        · subst ee
          have HT3 := Lib.hid ((runR_ok _ _ rfl).symm.trans HT3)
          clear HT2
          have K3 := Lib.hid (AP.out s3 u3 B3 (by have := HC3.out; have := H1.out; omega) D3.out.1)
          have HC4 := Lib.hid (show (appendR s3 wayL x.data.toList).1.calls ≤ s.calls + 4 by rw [calls_append _ _ _]; have := HC3.out; omega)
          obtain ⟨⟨s4, e4⟩, q4⟩ : ∃ p, appendR s3 wayL x.data.toList = p := ⟨_, rfl⟩
          rw [q4] at K3 HC4
          have HT4 := HT3.out
          simp only [q4] at HT4
          clear q4
          go_wp2_with fail
          refine K3.out.mono ?_; rintro e u4 ⟨rfl, B4, dd, nn⟩
          have D4 := Lib.hid (show RDiskA d s4 u4 B4 ∧ Nx B w B4 u4 from ⟨dd, D3.out.2.trans nn⟩)
          clear dd nn K3
          by_cases ee : e4 = 0
          · subst ee
            have HT4 := Lib.hid ((runR_ok _ _ rfl).symm.trans HT4)
            clear HT3
            have K4 := Lib.hid (SY.out s4 u4 B4 (by have := HC4.out; have := H1.out; omega) D4.out.1)
            have HC5 := Lib.hid (show (syncR s4 wayL).1.calls ≤ s.calls + 5 by rw [calls_sync _ _]; have := HC4.out; omega)
            obtain ⟨⟨s5, e5⟩, q5⟩ : ∃ p, syncR s4 wayL = p := ⟨_, rfl⟩
            rw [q5] at K4 HC5
            have HT5 := HT4.out
            simp only [q5] at HT5
            clear q5
            go_wp2_with fail
            refine K4.out.mono ?_; rintro e u5 ⟨rfl, B5, dd, nn⟩
            have D5 := Lib.hid (show RDiskA d s5 u5 B5 ∧ Nx B w B5 u5 from ⟨dd, D4.out.2.trans nn⟩)
            clear dd nn K4
            by_cases ee : e5 = 0
            · subst ee
              have HT5 := Lib.hid ((runR_ok _ _ rfl).symm.trans HT5)
              clear HT4
              have K5 := Lib.hid (RN.out s5 u5 B5 (by have := HC5.out; have := H1.out; omega) D5.out.1)
              have HC6 := Lib.hid (show (renameR s5 wayL nameL).1.calls ≤ s.calls + 6 by rw [calls_rename _ _ _]; have := HC5.out; omega)
              obtain ⟨⟨s6, e6⟩, q6⟩ : ∃ p, renameR s5 wayL nameL = p := ⟨_, rfl⟩
              rw [q6] at K5 HC6
              have HT6 := HT5.out
              simp only [q6] at HT6
              clear q6
              go_wp2_with fail
              refine K5.out.mono ?_; rintro e u6 ⟨rfl, B6, dd, nn⟩
              have D6 := Lib.hid (show RDiskA d s6 u6 B6 ∧ Nx B w B6 u6 from ⟨dd, D5.out.2.trans nn⟩)
              clear dd nn K5
              obtain rfl : (s6, e6) = T := HT6
              go_wp2_with fail
              go_ret
              exact ⟨rfl, _, D6.out.1, D6.out.2⟩
            · have hz : (e5 == 0) = false := by simpa using ee
              rw [runR_no _ ee] at HT5
              subst HT5
              clear ee HT4
              go_wp2_with fail
              go_ret
              exact ⟨rfl, _, D5.out.1, D5.out.2⟩
          · have hz : (e4 == 0) = false := by simpa using ee
            rw [runR_no _ ee] at HT4
            subst HT4
            clear ee HT3
            go_wp2_with fail
            go_ret
            exact ⟨rfl, _, D4.out.1, D4.out.2⟩
        · have hz : (e3 == 0) = false := by simpa using ee
          rw [runR_no _ ee] at HT3
          subst HT3
          clear ee HT2
          go_wp2_with fail
          go_ret
          exact ⟨rfl, _, D3.out.1, D3.out.2⟩
      · have hz : (e2 == 0) = false := by simpa using ee
        rw [runR_no _ ee] at HT1
        subst HT1
        clear ee
        go_wp2_with fail
        go_ret
        exact ⟨rfl, _, D2.out.1, D2.out.2⟩
    · have hz1 : (e1 == 0) = false := by simpa using e0
      by_cases e2' : e1 = 2
      · have HG0 : goneR s = (s.call, 0) := by unfold goneR; rw [he1, if_neg e0, if_pos e2']
        have HT1 := HT.out
        rw [HG0] at HT1
        have HC2 := HC.out
        rw [HG0] at HC2
        have HC2 := Lib.hid (show s.call.calls ≤ s.calls + 2 from HC2)
        subst e2'
        have HT2 := Lib.hid ((runR_ok _ _ rfl).symm.trans HT1)
        clear HG0 he1 HT HC HT1 e0 hz1
        go_enter Tryz.func15, Tryz.ntmps15
        go_wp2_with fail
        refine PT.out.mono ?_; rintro e u0 ⟨rfl, g⟩
        have G0 := Lib.hid (GD.out u0 g)
        clear g
        have K1 := Lib.hid (SZ.out u0 B G0.out.1)
        go_wp2_with fail
        refine K1.out.mono ?_; rintro e u1 ⟨rfl, B1, d1, n1⟩
        have D1 := Lib.hid (show RDiskA d s.call u1 B1 ∧ Nx B w B1 u1 from ⟨d1, G0.out.2.trans n1⟩)
        clear d1 n1 K1
        obtain ⟨s2, q2⟩ : ∃ p, s.call = p := ⟨_, rfl⟩
        rw [q2] at HT2 HC2 D1
        clear q2
        obtain ⟨u2, rfl⟩ : ∃ p, p = u1 := ⟨_, rfl⟩
        have D2 := D1
        obtain ⟨B2, rfl⟩ : ∃ p, p = B1 := ⟨_, rfl⟩
        have K2 := Lib.hid (CR.out s2 u2 B2 (by have := HC2.out; have := H1.out; omega) D2.out.1)
        have HC3 := Lib.hid (show (createR s2 wayL).1.calls ≤ s.calls + 3 by rw [calls_create _ _]; have := HC2.out; omega)
        obtain ⟨⟨s3, e3⟩, q3⟩ : ∃ p, createR s2 wayL = p := ⟨_, rfl⟩
        rw [q3] at K2 HC3
        have HT3 := HT2.out
        simp only [q3] at HT3
        clear q3
        go_wp2_with fail
        refine K2.out.mono ?_; rintro e u3 ⟨rfl, B3, dd, nn⟩
        have D3 := Lib.hid (show RDiskA d s3 u3 B3 ∧ Nx B w B3 u3 from ⟨dd, D2.out.2.trans nn⟩)
        clear dd nn K2
        by_cases ee : e3 = 0
        · subst ee
          have HT3 := Lib.hid ((runR_ok _ _ rfl).symm.trans HT3)
          clear HT2
          have K3 := Lib.hid (AP.out s3 u3 B3 (by have := HC3.out; have := H1.out; omega) D3.out.1)
          have HC4 := Lib.hid (show (appendR s3 wayL x.data.toList).1.calls ≤ s.calls + 4 by rw [calls_append _ _ _]; have := HC3.out; omega)
          obtain ⟨⟨s4, e4⟩, q4⟩ : ∃ p, appendR s3 wayL x.data.toList = p := ⟨_, rfl⟩
          rw [q4] at K3 HC4
          have HT4 := HT3.out
          simp only [q4] at HT4
          clear q4
          go_wp2_with fail
          refine K3.out.mono ?_; rintro e u4 ⟨rfl, B4, dd, nn⟩
          have D4 := Lib.hid (show RDiskA d s4 u4 B4 ∧ Nx B w B4 u4 from ⟨dd, D3.out.2.trans nn⟩)
          clear dd nn K3
          by_cases ee : e4 = 0
          · subst ee
            have HT4 := Lib.hid ((runR_ok _ _ rfl).symm.trans HT4)
            clear HT3
            have K4 := Lib.hid (SY.out s4 u4 B4 (by have := HC4.out; have := H1.out; omega) D4.out.1)
            have HC5 := Lib.hid (show (syncR s4 wayL).1.calls ≤ s.calls + 5 by rw [calls_sync _ _]; have := HC4.out; omega)
            obtain ⟨⟨s5, e5⟩, q5⟩ : ∃ p, syncR s4 wayL = p := ⟨_, rfl⟩
            rw [q5] at K4 HC5
            have HT5 := HT4.out
            simp only [q5] at HT5
            clear q5
            go_wp2_with fail
            refine K4.out.mono ?_; rintro e u5 ⟨rfl, B5, dd, nn⟩
            have D5 := Lib.hid (show RDiskA d s5 u5 B5 ∧ Nx B w B5 u5 from ⟨dd, D4.out.2.trans nn⟩)
            clear dd nn K4
            by_cases ee : e5 = 0
            · subst ee
              have HT5 := Lib.hid ((runR_ok _ _ rfl).symm.trans HT5)
              clear HT4
              have K5 := Lib.hid (RN.out s5 u5 B5 (by have := HC5.out; have := H1.out; omega) D5.out.1)
              have HC6 := Lib.hid (show (renameR s5 wayL nameL).1.calls ≤ s.calls + 6 by rw [calls_rename _ _ _]; have := HC5.out; omega)
              obtain ⟨⟨s6, e6⟩, q6⟩ : ∃ p, renameR s5 wayL nameL = p := ⟨_, rfl⟩
              rw [q6] at K5 HC6
              have HT6 := HT5.out
              simp only [q6] at HT6
              clear q6
              go_wp2_with fail
              refine K5.out.mono ?_; rintro e u6 ⟨rfl, B6, dd, nn⟩
              have D6 := Lib.hid (show RDiskA d s6 u6 B6 ∧ Nx B w B6 u6 from ⟨dd, D5.out.2.trans nn⟩)
              clear dd nn K5
              obtain rfl : (s6, e6) = T := HT6
              go_wp2_with fail
              go_ret
              exact ⟨rfl, _, D6.out.1, D6.out.2⟩
            · have hz : (e5 == 0) = false := by simpa using ee
              rw [runR_no _ ee] at HT5
              subst HT5
              clear ee HT4
              go_wp2_with fail
              go_ret
              exact ⟨rfl, _, D5.out.1, D5.out.2⟩
          · have hz : (e4 == 0) = false := by simpa using ee
            rw [runR_no _ ee] at HT4
            subst HT4
            clear ee HT3
            go_wp2_with fail
            go_ret
            exact ⟨rfl, _, D4.out.1, D4.out.2⟩
        · have hz : (e3 == 0) = false := by simpa using ee
          rw [runR_no _ ee] at HT3
          subst HT3
          clear ee HT2
          go_wp2_with fail
          go_ret
          exact ⟨rfl, _, D3.out.1, D3.out.2⟩
      · have hz2 : (e1 == 2) = false := by simpa using e2'
        have HG0 : goneR s = (s.call, e1) := by unfold goneR; rw [he1, if_neg e0, if_neg e2']
        have HT1 := HT.out
        rw [HG0, runR_no _ e0] at HT1
        subst HT1
        clear HG0 he1 HT HC e0 e2'
        go_enter Tryz.func15, Tryz.ntmps15
        go_wp2_with fail
        refine PT.out.mono ?_; rintro e u0 ⟨rfl, g⟩
        have G0 := Lib.hid (GD.out u0 g)
        clear g
        have K1 := Lib.hid (SZ.out u0 B G0.out.1)
        go_wp2_with fail
        refine K1.out.mono ?_; rintro e u1 ⟨rfl, B1, d1, n1⟩
        have D1 := Lib.hid (show RDiskA d s.call u1 B1 ∧ Nx B w B1 u1 from ⟨d1, G0.out.2.trans n1⟩)
        clear d1 n1 K1
        go_wp2_with fail
        go_ret
        exact ⟨rfl, _, D1.out.1, D1.out.2⟩
end Go.Proofs.YtckmciafonnohaaGreat
/- Whatever parts, all made since w but for what is in B: a call on the first or the second one, a part more, a store into a block, a part less. -/
namespace Go.Proofs.YtckmciafonnohaaGreat
open Go.RowKit
set_option linter.unusedVariables false
set_option linter.unusedSimpArgs false
set_option maxRecDepth 20000
def Qs (A : Nat → Prop) (L : List Asn) (w u : World) : Prop := Frs L ∧ ∃ B, stars L u B ∧ Nx A w B u
abbrev Ps (L : List Asn) (w u : World) : Prop := Qs (fun _ => False) L w u
theorem frs_iff : ∀ {L : List Asn}, Frs L ↔ ∀ P ∈ L, Fr P
  | [] => ⟨fun _ P h => (by cases h), fun _ => trivial⟩
  | A :: L => ⟨fun h P hP => by
      rcases List.mem_cons.1 hP with rfl | hP
      · exact h.1
      · exact frs_iff.1 h.2 P hP, fun h => ⟨h A List.mem_cons_self, frs_iff.2 fun P hP => h P (List.mem_cons_of_mem _ hP)⟩⟩
theorem Qs.gr {L : List Asn} {w u : World} (h : Ps L w u) : Gr w u := by
  obtain ⟨_, B, _, n⟩ := h
  exact nx_gr n
theorem Qs.on {A : Nat → Prop} {L : List Asn} {w u v : World} (h : Qs A L w u) (g : Gr u v) : Qs A L w v := by
  obtain ⟨hF, B, k, n⟩ := h
  exact ⟨hF, B, stars_gr hF k g, n.trans (Nx.gr g)⟩
theorem Qs.nil (w : World) : Ps [] w w := ⟨trivial, fun _ => False, fun _ h => h, Nx.refl _ _⟩
theorem Qs.one {A B : Nat → Prop} {P : Asn} {w u : World} (hP : Fr P) (p : P u B) (n : Nx A w B u) : Qs A [P] w u := ⟨⟨hP, trivial⟩, B, ⟨B, fun _ => False, p, (fun _ h => h), (fun _ _ h => h), fun b => (or_false _).symm ▸ Iff.rfl⟩, n⟩
theorem Qs.perm {A : Nat → Prop} {L M : List Asn} {w u : World} (h : Qs A L w u) (p : L.Perm M) : Qs A M w u := by
  obtain ⟨hF, B, k, n⟩ := h
  exact ⟨frs_iff.2 fun P hP => frs_iff.1 hF P (p.mem_iff.2 hP), B, stars_perm p k, n⟩
/-- A part less. -/
theorem Qs.tail {A : Nat → Prop} {P : Asn} {L : List Asn} {w u : World} (h : Qs A (P :: L) w u) : Qs A L w u := by
  obtain ⟨hF, B, ⟨B1, B2, _, q, _, e⟩, n⟩ := h
  exact ⟨hF.2, B2, q, n.trans ⟨Only.refl _ _, fun b hb => .inl ((e b).2 (.inr hb))⟩⟩
theorem Qs.part {A : Nat → Prop} {L : List Asn} {w u : World} {Q : Asn} (h : Qs A L w u) (i : Nat) (hi : L[i]? = some Q) : ∃ B, Q u B := by
  obtain ⟨_, B, k, _⟩ := h
  obtain ⟨B1, q, _⟩ := part_at i hi k
  exact ⟨B1, q⟩
theorem Qs.blk {A : Nat → Prop} {L : List Asn} {w u : World} {X : Nat} {c : Array Value} {T : TypeId} (h : Qs A L w u) (i : Nat) (hi : L[i]? = some (Blk X c T)) : u.heap[X]? = some (.cells c T (0, 0)) := by
  obtain ⟨_, q, _⟩ := h.part i hi
  exact q
/-- A part more, ahead of all. -/
theorem Qs.new {A : Nat → Prop} {L : List Asn} {w u v : World} {Q : Asn} {B' : Nat → Prop} (h : Qs A L w u) (g : Gr u v) (hQ : Fr Q) (q : Q v B') (hn : ∀ x, B' x → u.heap.size ≤ x) : Qs A (Q :: L) w v := by
  obtain ⟨hF, B, k, n⟩ := h
  obtain ⟨B3, k3, n3⟩ := part_new (P := Q) hF k g q hn
  exact ⟨⟨hQ, hF⟩, B3, k3, n.trans n3⟩
theorem Qs.blk_new {A : Nat → Prop} {L : List Asn} {w u v : World} (h : Qs A L w u) (c : Array Value) (T : TypeId) (hv : v = u.alloc (.cells c T)) : Qs A (Blk u.heap.size c T :: L) w v := by
  subst hv
  exact h.new (B' := fun b => b = u.heap.size) (Below.alloc (Below.refl _ _) (Nat.le_refl _) _) (fr_blk _ _ _) ⟨heap_alloc_new u _, fun _ => Iff.rfl⟩ (fun b hb => by rw [hb]; exact Nat.le_refl _)
theorem frs_set {Q : Asn} (hQ : Fr Q) : ∀ {L : List Asn} (i : Nat), Frs L → Frs (L.set i Q)
  | [], _, h => h
  | _ :: _, 0, h => ⟨hQ, h.2⟩
  | _ :: _, i + 1, h => ⟨h.1, frs_set hQ i h.2⟩
/-- A store into a block. -/
theorem Qs.set {A : Nat → Prop} {L : List Asn} {w u : World} {X : Nat} {c : Array Value} {T : TypeId} (h : Qs A L w u) (i : Nat) (hi : L[i]? = some (Blk X c T)) (j : Nat) (x : Value) : Qs A (L.set i (Blk X (c.setIfInBounds j x) T)) w (u.setCell ⟨X, j, none⟩ x) := by
  obtain ⟨hF, B, k, n⟩ := h
  obtain ⟨B', k', n'⟩ := step_at i hi hF k fun B1 hb => blk_next (i := j) hb x
  exact ⟨frs_set (fr_blk _ _ _) i hF, B', k', n.trans n'⟩
/-- Three stores. -/
theorem Qs.set3 {A : Nat → Prop} {L : List Asn} {w u : World} {X : Nat} {c : Array Value} {T : TypeId} (h : Qs A L w u) (i : Nat) (hi : L[i]? = some (Blk X c T)) (hc : c.size = 3) (x y z : Value) : Qs A (L.set i (Blk X #[x, y, z] T)) w (((u.setCell ⟨X, 0, none⟩ x).setCell ⟨X, 1, none⟩ y).setCell ⟨X, 2, none⟩ z) := by
  have il : i < L.length := by
    rcases Nat.lt_or_ge i L.length with h | h
    · exact h
    · rw [List.getElem?_eq_none h] at hi; cases hi
  have h1 := h.set i hi 0 x
  have h2 := h1.set i (by rw [List.getElem?_set_self il]) 1 y
  have h3 := h2.set i (by rw [List.getElem?_set_self (by simpa using il)]) 2 z
  rw [List.set_set, List.set_set] at h3
  match c, hc with
  | ⟨[_, _, _]⟩, _ => exact h3
/-- A call on the first part. -/
theorem Qs.call0 {A : Nat → Prop} {Pr : Program} {f : FuncId} {args : Array Value} {P Q : Asn} {L : List Asn} {X : Ending → World → Prop} {w u : World} (h : Qs A (P :: L) w u) (hQ : Fr Q) (C : ∀ B1, P u B1 → Calls Pr f args u fun e w' => X e w' ∧ ∃ B', Q w' B' ∧ Nx B1 u B' w') :
    Calls Pr f args u fun e w' => X e w' ∧ Qs A (Q :: L) w w' := by
  obtain ⟨hF, B, ⟨B1, B2, p, r, a, e⟩, n⟩ := h
  refine (C B1 p).mono fun e' w' ⟨hx, B', q, n1⟩ => ⟨hx, ⟨hQ, hF.2⟩, ?_⟩
  obtain ⟨B3, h3, n3⟩ := star_of (fr_stars hF.2) r a e q n1
  exact ⟨B3, h3, n.trans n3⟩
/-- A call on the second part. -/
theorem Qs.call1 {A : Nat → Prop} {Pr : Program} {f : FuncId} {args : Array Value} {O P Q : Asn} {L : List Asn} {X : Ending → World → Prop} {w u : World} (h : Qs A (O :: P :: L) w u) (hQ : Fr Q) (C : ∀ B1, P u B1 → Calls Pr f args u fun e w' => X e w' ∧ ∃ B', Q w' B' ∧ Nx B1 u B' w') :
    Calls Pr f args u fun e w' => X e w' ∧ Qs A (O :: Q :: L) w w' :=
  ((h.perm (List.Perm.swap P O L)).call0 hQ C).mono fun _ _ ⟨hx, k⟩ => ⟨hx, k.perm (List.Perm.swap O Q L)⟩
end Go.Proofs.YtckmciafonnohaaGreat
