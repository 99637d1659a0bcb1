/- In one text: CmRef, FlPart. -/
import Derived.Test.YtignfbdgpgidpaaGreatDoorS06
import Derived.Test.YtignfbdgpgidpaaGreatDoorS15
import Derived.Test.YtignfbdgpgidpaaGreatDoorS16
import Derived.Test.YtignfbdgpgidpaaGreatDoorS28
import Derived.Test.YtignfbdgpgidpaaGreatDoorS09
import Derived.Test.YtignfbdgpgidpaaGreatDoorS21
/- The document's answers of layer 20: Save. -/
namespace Go.Proofs.YtignfbdgpgidpaaGreatDoor
open Go.RowKit FsPlain CrcPlain OctPlain MnPlain CmPlain
set_option linter.unusedVariables false
set_option linter.unusedSimpArgs false
set_option maxRecDepth 20000
namespace CmPlain
def saveR (s : St) (m : Mn) : St × Int := if mnB m = true then saveS s (ptS m).data.toList else (s, 1)
end CmPlain
def wayS : ByteArray := ⟨#[109, 97, 110, 105, 102, 101, 115, 116, 46, 110, 101, 119]⟩
def nameS : ByteArray := ⟨#[109, 97, 110, 105, 102, 101, 115, 116]⟩
def RAt20 (d : Nat) (B : Nat → Prop) (w : World) (s : St) (w' : World) : Prop := ∃ B', RDiskA d s w' B' ∧ Nx B w B' w'
set_option maxHeartbeats 8000000 in
theorem rsave20_c (d : Nat) (s : St) (m : Mn) {a : Option Addr} {n c : Nat} (w : World) (B : Nat → Prop) (hd : RDiskA d s w B) (h1 : s.calls ≤ 1000000000) (h : LiesFl w (.slice a n c) m.files) (hl : m.files.length ≤ maxLen) (hK : ∀ f ∈ m.files, flK f) (hs : I64 m.stage) (hp : I64 m.pass) :
    Calls Tryz.prog 41 #[.pointer (some ⟨d, 0, none⟩), .agg #[.int .i64 m.stage, .int .i64 m.pass, .slice a n c]] w fun e w' => e = .returned (.int .i64 (saveR s m).2) ∧ RAt20 d B w (saveR s m).1 w' := by
  have g0 := gr19 w (.cells #[.int .i64 m.stage, .int .i64 m.pass, .slice a n c] 27)
  have PT := Lib.hid (rput19_c m _ (h.gr g0) hl hK hs hp)
  obtain ⟨x, hx⟩ : ∃ x, ptS m = x := ⟨_, rfl⟩
  have hxs := ptS_size (m := m)
  obtain ⟨mb, hmb⟩ : ∃ b, mnB m = b := ⟨_, rfl⟩
  unfold saveR
  rw [hx, hmb] at PT ⊢
  rw [hx] at hxs
  have GD := Lib.hid (fun u (g : Gr (w.alloc (.cells #[.int .i64 m.stage, .int .i64 m.pass, .slice a n c] 27)) u) => (⟨star_gr (fr_rdisk d s) hd (g0.trans g), Nx.gr (g0.trans g)⟩ : RDiskA d s u B ∧ Nx B w B u))
  clear h hl hK hs hp hx hmb g0 hd
  cases mb with
  | false =>
    go_enter Tryz.func41, Tryz.ntmps41
    go_wp2_with fail
    refine PT.out.mono ?_; rintro e u ⟨rfl, g⟩
    have G := Lib.hid (GD.out u g)
    clear g
    go_wp2_with fail
    go_ret
    exact ⟨rfl, B, G.out.1, G.out.2⟩
  | true =>
    rw [if_pos rfl]
    obtain ⟨T, hT⟩ : ∃ T, saveS s x.data.toList = T := ⟨_, rfl⟩
    rw [hT]
    rw [save_run] at hT
    have hcg := calls_gone s
    obtain ⟨r1, hr1⟩ : ∃ r, (sizeR s wayL).1 = r := ⟨_, rfl⟩
    obtain ⟨e1, he1⟩ : ∃ r, (sizeR s wayL).2 = r := ⟨_, rfl⟩
    have SZ := Lib.hid (fun u B1 (hu : RDiskA d s u B1) => (show Calls Tryz.prog 78 #[.pointer (some ⟨d, 0, none⟩), .string wayS] u (Does u B1 (RDiskA d s.call) (.tuple #[.int .i64 r1, .int .i64 e1])) from by
      have := r_size d s wayS (by decide) way_right (by omega) u B1 hu
      rw [← hr1, ← he1]
      exact this))
    have RM := Lib.hid (fun u B1 (hu : RDiskA d s.call u B1) => (show Calls Tryz.prog 47 #[.pointer (some ⟨d, 0, none⟩), .string wayS] u (Does u B1 (RDiskA d (removeR s.call wayL).1) (.int .i64 (removeR s.call wayL).2)) from r_remove d s.call wayS (by decide) way_right (by show s.calls + 1 ≤ _; omega) u B1 hu))
    have CR := Lib.hid (fun t u B1 (hc : t.calls ≤ 1000000010) (hu : RDiskA d t u B1) => (show Calls Tryz.prog 31 #[.pointer (some ⟨d, 0, none⟩), .string wayS] u (Does u B1 (RDiskA d (createR t wayL).1) (.int .i64 (createR t wayL).2)) from r_create d t wayS (by decide) way_right (by omega) u B1 hu))
    have AP := Lib.hid (fun t u B1 (hc : t.calls ≤ 1000000010) (hu : RDiskA d t u B1) => (show Calls Tryz.prog 32 #[.pointer (some ⟨d, 0, none⟩), .string wayS, .string x] u (Does u B1 (RDiskA d (appendR t wayL x.data.toList).1) (.int .i64 (appendR t wayL x.data.toList).2)) from r_append d t wayS x (by decide) way_right (by omega) (by omega) u B1 hu))
    have SY := Lib.hid (fun t u B1 (hc : t.calls ≤ 1000000010) (hu : RDiskA d t u B1) => (show Calls Tryz.prog 79 #[.pointer (some ⟨d, 0, none⟩), .string wayS] u (Does u B1 (RDiskA d (syncR t wayL).1) (.int .i64 (syncR t wayL).2)) from r_sync d t wayS (by decide) way_right (by omega) u B1 hu))
    have RN := Lib.hid (fun t u B1 (hc : t.calls ≤ 1000000010) (hu : RDiskA d t u B1) => (show Calls Tryz.prog 80 #[.pointer (some ⟨d, 0, none⟩), .string wayS, .string nameS] u (Does u B1 (RDiskA d (renameR t wayL nameL).1) (.int .i64 (renameR t wayL nameL).2)) from r_rename d t wayS nameS (by decide) way_right (by decide) name_right (by omega) u B1 hu))
    unfold wayS nameS at *
    have HT := Lib.hid hT
    have HC := Lib.hid hcg
    have H1 := Lib.hid h1
    clear hT hcg h1 hr1 hxs
    by_cases e0 : e1 = 0
    · have HG0 : goneR s = removeR s.call wayL := by unfold goneR; rw [he1, if_pos e0]
      have HT1 := HT.out
      rw [HG0] at HT1
      have HC2 := HC.out
      rw [HG0] at HC2
      subst e0
      clear HG0 he1 HT HC
      go_enter Tryz.func41, Tryz.ntmps41
      go_wp2_with fail
      refine PT.out.mono ?_; rintro e u0 ⟨rfl, g⟩
      have G0 := Lib.hid (GD.out u0 g)
      clear g
      have K1 := Lib.hid (SZ.out u0 B G0.out.1)
      go_wp2_with fail
      refine K1.out.mono ?_; rintro e u1 ⟨rfl, B1, d1, n1⟩
      have D1 := Lib.hid (show RDiskA d s.call u1 B1 ∧ Nx B w B1 u1 from ⟨d1, G0.out.2.trans n1⟩)
      clear d1 n1 K1
      have K1 := Lib.hid (RM.out u1 B1 D1.out.1)
      obtain ⟨⟨s2, e2⟩, q2⟩ : ∃ p, removeR s.call wayL = p := ⟨_, rfl⟩
      rw [q2] at K1 HT1 HC2
      have HC2 := Lib.hid HC2
      clear q2
      go_wp2_with fail
      refine K1.out.mono ?_; rintro e u2 ⟨rfl, B2, dd, nn⟩
      have D2 := Lib.hid (show RDiskA d s2 u2 B2 ∧ Nx B w B2 u2 from ⟨dd, D1.out.2.trans nn⟩)
      clear dd nn K1
      by_cases ee : e2 = 0
      · subst ee
        have HT2 := Lib.hid ((runR_ok _ _ rfl).symm.trans HT1)
        clear HT1
        have K2 := Lib.hid (CR.out s2 u2 B2 (by have := HC2.out; have := H1.out; omega) D2.out.1)
        have HC3 := Lib.hid (show (createR s2 wayL).1.calls ≤ s.calls + 3 by rw [calls_create _ _]; have := HC2.out; omega)
        obtain ⟨⟨s3, e3⟩, q3⟩ : ∃ p, createR s2 wayL = p := ⟨_, rfl⟩
        rw [q3] at K2 HC3
        have HT3 := HT2.out
        simp only [q3] at HT3
        clear q3
        go_wp2_with fail
        refine K2.out.mono ?_; rintro e u3 ⟨rfl, B3, dd, nn⟩
        have D3 := Lib.hid (show RDiskA d s3 u3 B3 ∧ Nx B w B3 u3 from ⟨dd, D2.out.2.trans nn⟩)
        clear dd nn K2
        by_cases ee : e3 = 0
        · subst ee
          have HT3 := Lib.hid ((runR_ok _ _ rfl).symm.trans HT3)
          clear HT2
          have K3 := Lib.hid (AP.out s3 u3 B3 (by have := HC3.out; have := H1.out; omega) D3.out.1)
          have HC4 := Lib.hid (show (appendR s3 wayL x.data.toList).1.calls ≤ s.calls + 4 by rw [calls_append _ _ _]; have := HC3.out; omega)
          obtain ⟨⟨s4, e4⟩, q4⟩ : ∃ p, appendR s3 wayL x.data.toList = p := ⟨_, rfl⟩
          rw [q4] at K3 HC4
          have HT4 := HT3.out
          simp only [q4] at HT4
          clear q4
          go_wp2_with fail
          refine K3.out.mono ?_; rintro e u4 ⟨rfl, B4, dd, nn⟩
          have D4 := Lib.hid (show RDiskA d s4 u4 B4 ∧ Nx B w B4 u4 from ⟨dd, D3.out.2.trans nn⟩)
          clear dd nn K3
          by_cases ee : e4 = 0
          · subst ee
            have HT4 := Lib.hid ((runR_ok _ _ rfl).symm.trans HT4)
            clear HT3
            have K4 := Lib.hid (SY.out s4 u4 B4 (by have := HC4.out; have := H1.out; omega) D4.out.1)
            have HC5 := Lib.hid (show (syncR s4 wayL).1.calls ≤ s.calls + 5 by rw [calls_sync _ _]; have := HC4.out; omega)
            obtain ⟨⟨s5, e5⟩, q5⟩ : ∃ p, syncR s4 wayL = p := ⟨_, rfl⟩
            rw [q5] at K4 HC5
            have HT5 := HT4.out
            simp only [q5] at HT5
            clear q5
            go_wp2_with fail
            refine K4.out.mono ?_; rintro e u5 ⟨rfl, B5, dd, nn⟩
            have D5 := Lib.hid (show RDiskA d s5 u5 B5 ∧ Nx B w B5 u5 from ⟨dd, D4.out.2.trans nn⟩)
            clear dd nn K4
            by_cases ee : e5 = 0
            · subst ee
              have HT5 := Lib.hid ((runR_ok _ _ rfl).symm.trans HT5)
              clear HT4
              have K5 := Lib.hid (RN.out s5 u5 B5 (by have := HC5.out; have := H1.out; omega) D5.out.1)
              have HC6 := Lib.hid (show (renameR s5 wayL nameL).1.calls ≤ s.calls + 6 by rw [calls_rename _ _ _]; have := HC5.out; omega)
              obtain ⟨⟨s6, e6⟩, q6⟩ : ∃ p, renameR s5 wayL nameL = p := ⟨_, rfl⟩
              rw [q6] at K5 HC6
              have HT6 := HT5.out
              simp only [q6] at HT6
              clear q6
              go_wp2_with fail
              refine K5.out.mono ?_; rintro e u6 ⟨rfl, B6, dd, nn⟩
              have D6 := Lib.hid (show RDiskA d s6 u6 B6 ∧ Nx B w B6 u6 from ⟨dd, D5.out.2.trans nn⟩)
              clear dd nn K5
              obtain rfl : (s6, e6) = T := HT6
              go_wp2_with fail
              go_ret
              exact ⟨rfl, _, D6.out.1, D6.out.2⟩
            · have hz : (e5 == 0) = false := by simpa using ee
              rw [runR_no _ ee] at HT5
              subst HT5
              clear ee HT4
              go_wp2_with fail
              go_ret
              exact ⟨rfl, _, D5.out.1, D5.out.2⟩
          · have hz : (e4 == 0) = false := by simpa using ee
            rw [runR_no _ ee] at HT4
            subst HT4
            clear ee HT3
            go_wp2_with fail
            go_ret
            exact ⟨rfl, _, D4.out.1, D4.out.2⟩
        · have hz : (e3 == 0) = false := by simpa using ee
          rw [runR_no _ ee] at HT3
          subst HT3
          clear ee HT2
          go_wp2_with fail
          go_ret
          exact ⟨rfl, _, D3.out.1, D3.out.2⟩
      · have hz : (e2 == 0) = false := by simpa using ee
        rw [runR_no _ ee] at HT1
        subst HT1
        clear ee
        go_wp2_with fail
        go_ret
        exact ⟨rfl, _, D2.out.1, D2.out.2⟩
    · have hz1 : (e1 == 0) = false := by simpa using e0
      by_cases e2' : e1 = 2
      · have HG0 : goneR s = (s.call, 0) := by unfold goneR; rw [he1, if_neg e0, if_pos e2']
        have HT1 := HT.out
        rw [HG0] at HT1
        have HC2 := HC.out
        rw [HG0] at HC2
        have HC2 := Lib.hid (show s.call.calls ≤ s.calls + 2 from HC2)
        subst e2'
        have HT2 := Lib.hid ((runR_ok _ _ rfl).symm.trans HT1)
        clear HG0 he1 HT HC HT1 e0 hz1
        go_enter Tryz.func41, Tryz.ntmps41
        go_wp2_with fail
        refine PT.out.mono ?_; rintro e u0 ⟨rfl, g⟩
        have G0 := Lib.hid (GD.out u0 g)
        clear g
        have K1 := Lib.hid (SZ.out u0 B G0.out.1)
        go_wp2_with fail
        refine K1.out.mono ?_; rintro e u1 ⟨rfl, B1, d1, n1⟩
        have D1 := Lib.hid (show RDiskA d s.call u1 B1 ∧ Nx B w B1 u1 from ⟨d1, G0.out.2.trans n1⟩)
        clear d1 n1 K1
        obtain ⟨s2, q2⟩ : ∃ p, s.call = p := ⟨_, rfl⟩
        rw [q2] at HT2 HC2 D1
        clear q2
        obtain ⟨u2, rfl⟩ : ∃ p, p = u1 := ⟨_, rfl⟩
        have D2 := D1
        obtain ⟨B2, rfl⟩ : ∃ p, p = B1 := ⟨_, rfl⟩
        have K2 := Lib.hid (CR.out s2 u2 B2 (by have := HC2.out; have := H1.out; omega) D2.out.1)
        have HC3 := Lib.hid (show (createR s2 wayL).1.calls ≤ s.calls + 3 by rw [calls_create _ _]; have := HC2.out; omega)
        obtain ⟨⟨s3, e3⟩, q3⟩ : ∃ p, createR s2 wayL = p := ⟨_, rfl⟩
        rw [q3] at K2 HC3
        have HT3 := HT2.out
        simp only [q3] at HT3
        clear q3
        go_wp2_with fail
        refine K2.out.mono ?_; rintro e u3 ⟨rfl, B3, dd, nn⟩
        have D3 := Lib.hid (show RDiskA d s3 u3 B3 ∧ Nx B w B3 u3 from ⟨dd, D2.out.2.trans nn⟩)
        clear dd nn K2
        by_cases ee : e3 = 0
        · subst ee
          have HT3 := Lib.hid ((runR_ok _ _ rfl).symm.trans HT3)
          clear HT2
          have K3 := Lib.hid (AP.out s3 u3 B3 (by have := HC3.out; have := H1.out; omega) D3.out.1)
          have HC4 := Lib.hid (show (appendR s3 wayL x.data.toList).1.calls ≤ s.calls + 4 by rw [calls_append _ _ _]; have := HC3.out; omega)
          obtain ⟨⟨s4, e4⟩, q4⟩ : ∃ p, appendR s3 wayL x.data.toList = p := ⟨_, rfl⟩
          rw [q4] at K3 HC4
          have HT4 := HT3.out
          simp only [q4] at HT4
          clear q4
          go_wp2_with fail
          refine K3.out.mono ?_; rintro e u4 ⟨rfl, B4, dd, nn⟩
          have D4 := Lib.hid (show RDiskA d s4 u4 B4 ∧ Nx B w B4 u4 from ⟨dd, D3.out.2.trans nn⟩)
          clear dd nn K3
          by_cases ee : e4 = 0
          · subst ee
            have HT4 := Lib.hid ((runR_ok _ _ rfl).symm.trans HT4)
            clear HT3
            have K4 := Lib.hid (SY.out s4 u4 B4 (by have := HC4.out; have := H1.out; omega) D4.out.1)
            have HC5 := Lib.hid (show (syncR s4 wayL).1.calls ≤ s.calls + 5 by rw [calls_sync _ _]; have := HC4.out; omega)
            obtain ⟨⟨s5, e5⟩, q5⟩ : ∃ p, syncR s4 wayL = p := ⟨_, rfl⟩
            rw [q5] at K4 HC5
            have HT5 := HT4.out
            simp only [q5] at HT5
            clear q5
            go_wp2_with fail
            refine K4.out.mono ?_; rintro e u5 ⟨rfl, B5, dd, nn⟩
            have D5 := Lib.hid (show RDiskA d s5 u5 B5 ∧ Nx B w B5 u5 from ⟨dd, D4.out.2.trans nn⟩)
            clear dd nn K4
            by_cases ee : e5 = 0
            · subst ee
              have HT5 := Lib.hid ((runR_ok _ _ rfl).symm.trans HT5)
              clear HT4
              have K5 := Lib.hid (RN.out s5 u5 B5 (by have := HC5.out; have := H1.out; omega) D5.out.1)
              have HC6 := Lib.hid (show (renameR s5 wayL nameL).1.calls ≤ s.calls + 6 by rw [calls_rename _ _ _]; have := HC5.out; omega)
              obtain ⟨⟨s6, e6⟩, q6⟩ : ∃ p, renameR s5 wayL nameL = p := ⟨_, rfl⟩
              rw [q6] at K5 HC6
              have HT6 := HT5.out
              simp only [q6] at HT6
              clear q6
              go_wp2_with fail
              refine K5.out.mono ?_; rintro e u6 ⟨rfl, B6, dd, nn⟩
              have D6 := Lib.hid (show RDiskA d s6 u6 B6 ∧ Nx B w B6 u6 from ⟨dd, D5.out.2.trans nn⟩)
              clear dd nn K5
              obtain rfl : (s6, e6) = T := HT6
              go_wp2_with fail
              go_ret
              exact ⟨rfl, _, D6.out.1, D6.out.2⟩
            · have hz : (e5 == 0) = false := by simpa using ee
              rw [runR_no _ ee] at HT5
              subst HT5
              clear ee HT4
              go_wp2_with fail
              go_ret
              exact ⟨rfl, _, D5.out.1, D5.out.2⟩
          · have hz : (e4 == 0) = false := by simpa using ee
            rw [runR_no _ ee] at HT4
            subst HT4
            clear ee HT3
            go_wp2_with fail
            go_ret
            exact ⟨rfl, _, D4.out.1, D4.out.2⟩
        · have hz : (e3 == 0) = false := by simpa using ee
          rw [runR_no _ ee] at HT3
          subst HT3
          clear ee HT2
          go_wp2_with fail
          go_ret
          exact ⟨rfl, _, D3.out.1, D3.out.2⟩
      · have hz2 : (e1 == 2) = false := by simpa using e2'
        have HG0 : goneR s = (s.call, e1) := by unfold goneR; rw [he1, if_neg e0, if_neg e2']
        have HT1 := HT.out
        rw [HG0, runR_no _ e0] at HT1
        subst HT1
        clear HG0 he1 HT HC e0 e2'
        go_enter Tryz.func41, Tryz.ntmps41
        go_wp2_with fail
        refine PT.out.mono ?_; rintro e u0 ⟨rfl, g⟩
        have G0 := Lib.hid (GD.out u0 g)
        clear g
        have K1 := Lib.hid (SZ.out u0 B G0.out.1)
        go_wp2_with fail
        refine K1.out.mono ?_; rintro e u1 ⟨rfl, B1, d1, n1⟩
        have D1 := Lib.hid (show RDiskA d s.call u1 B1 ∧ Nx B w B1 u1 from ⟨d1, G0.out.2.trans n1⟩)
        clear d1 n1 K1
        go_wp2_with fail
        go_ret
        exact ⟨rfl, _, D1.out.1, D1.out.2⟩
end Go.Proofs.YtignfbdgpgidpaaGreatDoor
/- A slice of files as a part. -/
namespace Go.Proofs.YtignfbdgpgidpaaGreatDoor
open Go.RowKit FsPlain MnPlain
set_option linter.unusedVariables false
set_option linter.unusedSimpArgs false
set_option maxRecDepth 20000
def FlA (v : Value) (l : List Fl) : Asn := fun w B => LiesFl w v l ∧ (∀ b, B b → b < w.heap.size) ∧ (l = [] ∨ ∃ b o n c, v = .slice (some ⟨b, o, none⟩) n c ∧ B b)
theorem fr_fl (v : Value) (l : List Fl) : Fr (FlA v l) where
  fr := fun {w w' B C} ⟨h, hl, hb⟩ o d => by
    refine ⟨?_, fun b hb => Nat.lt_of_lt_of_le (hl b hb) o.size, hb⟩
    obtain ⟨a, c, e, hc, h⟩ := h
    rcases h with h | ⟨b, off, e2, k⟩
    · exact ⟨a, c, e, hc, .inl h⟩
    · rcases hb with hb | ⟨b', o', n', c', e3, hB⟩
      · exact ⟨a, c, e, hc, .inl hb⟩
      · rw [e, e2] at e3
        simp only [Value.slice.injEq, Option.some.injEq, Addr.mk.injEq] at e3
        obtain ⟨⟨hbb, _, _⟩, _, _⟩ := e3
        have hn : ¬ C b := by rw [hbb]; exact d b' hB
        refine ⟨a, c, e, hc, .inr ⟨b, off, e2, Nat.lt_of_lt_of_le k.1 o.size, fun j x hj => ?_⟩⟩
        obtain ⟨k0, k1, k2, k3⟩ := k.2 j x hj
        exact ⟨(o.cell (p := ⟨b, _, none⟩) k.1 hn).trans k0, (o.cell (p := ⟨b, _, none⟩) k.1 hn).trans k1, (o.cell (p := ⟨b, _, none⟩) k.1 hn).trans k2, (o.cell (p := ⟨b, _, none⟩) k.1 hn).trans k3⟩
  lo := fun ⟨_, hl, _⟩ => hl
theorem fl_new {w w' : World} {v : Value} {l : List Fl} (h : LiesFl w' v l) (hn : NewFl w v) : ∃ B, FlA v l w' B ∧ ∀ b, B b → w.heap.size ≤ b := by
  obtain ⟨a, c, e, hc, k⟩ := id h
  rcases k with k | ⟨b, off, e2, k⟩
  · exact ⟨fun _ => False, ⟨h, fun b hb => hb.elim, .inl k⟩, fun b hb => hb.elim⟩
  · refine ⟨fun x => x = b, ⟨h, fun x hx => by rw [hx]; exact k.1, .inr ⟨b, off, _, c, by rw [e, e2], rfl⟩⟩, fun x hx => ?_⟩
    rw [hx]
    exact hn ⟨b, off, none⟩ _ _ (by rw [e, e2])
theorem fl_lies {w : World} {B : Nat → Prop} {v : Value} {l : List Fl} (h : FlA v l w B) : LiesFl w v l := h.1
end Go.Proofs.YtignfbdgpgidpaaGreatDoor
