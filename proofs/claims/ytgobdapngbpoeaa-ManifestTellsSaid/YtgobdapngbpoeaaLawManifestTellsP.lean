/- Rows.ManifestTellsSaid holds: for every input the law returns true and leaves its arguments as they were. Conditions: none beside the row's own. -/
import Derived.Test.YtgobdapngbpoeaaRows
import Derived.WalkKit
import Derived.ProofKit
import Derived.OpenShut
import Derived.ShutString
import Derived.ChangeOld
import Derived.Below
import Derived.Test.YtgobdapngbpoeaaP00
import Derived.Test.YtgobdapngbpoeaaP32
namespace Go.Proofs.Ytgobdapngbpoeaa.manifestTells
open Go.ChangeShapes Go.WideShapes Go.ChangeAt Go.RowKit
open Go.ChangeMaps (open_string shut_string)
open FsPlain CrcPlain OctPlain MnPlain
set_option linter.unusedVariables false
set_option linter.unusedSimpArgs false

theorem own : ownKnob Try.prog.godebug = none := by kernel_rfl
theorem laidOut : laidOutB Try.prog = true := by kernel_rfl


set_option maxRecDepth 100000 in
set_option maxHeartbeats 8000000 in
theorem walk (v0 v1 v2 v3 : Value) (w : World) (w0 : RdAgg Try.prog w 24 v0) (w1 : RdAgg Try.prog w 24 v1) (w2 : Rd Try.prog w 9 v2) (w3 : RdAgg Try.prog w 27 v3) :
    Calls Try.prog 3 #[v0, v1, v2, v3] w fun e w' => e = .returned (.bool true) ∧ Gr w w' := by
  obtain ⟨m, ma, mc, rfl, hm, hml, hmK, hms, hmp⟩ := mn_in w0
  obtain ⟨n, na, nc, rfl, hn, hnl, hnK, hns, hnp⟩ := mn_in w1
  obtain ⟨s, rfl, hsm⟩ := rd_string Try.underlying9 w2
  obtain ⟨f, rfl, hfK⟩ := fl_in w3
  clear w0 w1 w2 w3
  obtain ⟨W, hW⟩ : ∃ W, W = ((w.alloc (.cells #[.int .i64 m.stage, .int .i64 m.pass, .slice ma m.files.length mc] 24)).alloc (.cells #[.int .i64 n.stage, .int .i64 n.pass, .slice na n.files.length nc] 24)).alloc (.cells #[.string f.name, .int .i64 f.size, .int .i64 f.count, .int .u32 f.sum] 27) := ⟨_, rfl⟩
  have gW : Gr w W := by rw [hW]; exact (((Gr.refl w).alloc (Nat.le_refl _) _).alloc (by simp) _).alloc (by simp <;> omega) _
  have hz : W.heap.size = w.heap.size + 1 + 1 + 1 := by rw [hW]; simp
  have y0 : W.heap[w.heap.size]? = some (.cells #[.int .i64 m.stage, .int .i64 m.pass, .slice ma m.files.length mc] 24 (0, 0)) := by
    rw [hW, Below.heap_alloc _ _ _ (by simp <;> omega), Below.heap_alloc _ _ _ (by simp)]
    exact heap_alloc_new w _
  have y1 : W.heap[w.heap.size + 1]? = some (.cells #[.int .i64 n.stage, .int .i64 n.pass, .slice na n.files.length nc] 24 (0, 0)) := by
    rw [hW, Below.heap_alloc _ _ _ (by simp)]
    have := heap_alloc_new (w.alloc (.cells #[.int .i64 m.stage, .int .i64 m.pass, .slice ma m.files.length mc] 24)) (.cells #[.int .i64 n.stage, .int .i64 n.pass, .slice na n.files.length nc] 24)
    rwa [World.size_alloc] at this
  have y2 : W.heap[w.heap.size + 1 + 1]? = some (.cells #[.string f.name, .int .i64 f.size, .int .i64 f.count, .int .u32 f.sum] 27 (0, 0)) := by
    rw [hW]
    have := heap_alloc_new ((w.alloc (.cells #[.int .i64 m.stage, .int .i64 m.pass, .slice ma m.files.length mc] 24)).alloc (.cells #[.int .i64 n.stage, .int .i64 n.pass, .slice na n.files.length nc] 24)) (.cells #[.string f.name, .int .i64 f.size, .int .i64 f.count, .int .u32 f.sum] 27)
    rwa [World.size_alloc, World.size_alloc] at this
  have b0 := mnB_at y0
  have b1 := mnB_at y1
  have b2 := flB_at y2
  have KS := Lib.hid (fun u (g : Gr W u) => (⟨mnB_gr b0 g, mnB_gr b1 g, flB_gr b2 g, gW.trans g⟩ : MnB u w.heap.size m.stage m.pass (.slice ma m.files.length mc) ∧ MnB u (w.heap.size + 1) n.stage n.pass (.slice na n.files.length nc) ∧ FlB u (w.heap.size + 1 + 1) f ∧ Gr w u))
  have LM := Lib.hid (fun u (g : Gr W u) => hm.gr (gW.trans g))
  have LN := Lib.hid (fun u (g : Gr W u) => hn.gr (gW.trans g))
  have HM := Lib.hid (show m.files.length ≤ maxLen ∧ (∀ f ∈ m.files, flK f) ∧ I64 m.stage ∧ I64 m.pass from ⟨hml, hmK, hms, hmp⟩)
  have HN := Lib.hid (show n.files.length ≤ maxLen from hnl)
  have HF := Lib.hid hfK
  have HW := Lib.hid hW
  have GW := Lib.hid gW
  have F1 := rfew_c m.stage m.pass ma m.files.length mc m.files W (LM.out W (Gr.refl W)) hml
  have F2 := fun u (g : Gr W u) => rfew_c n.stage n.pass na n.files.length nc n.files u (LN.out u g) hnl
  obtain ⟨⟨m0, m1, m2⟩, _, _, _⟩ := KS.out W (Gr.refl W)
  unfold maxLen at hsm
  clear hm hn hml hmK hms hmp hnl hnK hns hnp hfK gW hz y0 y1 y2 b0 b1 b2 hW
  cases hf1 : fewB m.files
  · rw [hf1] at F1
    have F1 := Lib.hid F1
    clear hf1 F2
    go_enter Try.func3, Try.ntmps3
    go_wp2_with fail
    rw [← HW.out]
    refine F1.out.mono ?_; rintro e u ⟨rfl, g⟩
    have G := Lib.hid (GW.out.trans g)
    clear g m0 m1 m2
    go_wp2_with fail
    refine (awake19_c _).mono ?_; rintro e ua ⟨rfl, ga⟩
    go_wp2_with fail
    go_ret
    exact ⟨rfl, G.out.trans ga⟩
  · rw [hf1] at F1
    have F1 := Lib.hid F1
    cases hf2 : fewB n.files
    · simp only [hf2] at F2
      have F2 := Lib.hid F2
      clear hf1 hf2
      go_enter Try.func3, Try.ntmps3
      go_wp2_with fail
      rw [← HW.out]
      refine F1.out.mono ?_; rintro e u ⟨rfl, g⟩
      obtain ⟨_, ⟨n0, n1, n2⟩, ⟨x0, x1, x2, x3⟩, _⟩ := KS.out u g
      have FF := Lib.hid (F2.out u g)
      have G := Lib.hid (show Gr W u from g)
      clear g m0 m1 m2 F2
      go_wp2_with fail
      refine FF.out.mono ?_; rintro e u2 ⟨rfl, g2⟩
      have G2 := Lib.hid (G.out.trans g2)
      clear FF n0 n1 n2 x0 x1 x2 x3 G
      obtain ⟨⟨m0, m1, m2⟩, _, ⟨x0, x1, x2, x3⟩, _⟩ := KS.out u2 G2.out
      clear g2
      go_wp2_with fail
      refine (awake19_c _).mono ?_; rintro e ua ⟨rfl, ga⟩
      go_wp2_with fail
      go_ret
      exact ⟨rfl, (GW.out.trans G2.out).trans ga⟩
    · simp only [hf2] at F2
      have F2 := Lib.hid F2
      by_cases hs7 : (700 : Int) < (s.size : Int)
      · clear hf1 hf2
        go_enter Try.func3, Try.ntmps3
        go_wp2_with fail
        rw [← HW.out]
        refine F1.out.mono ?_; rintro e u ⟨rfl, g⟩
        obtain ⟨_, ⟨n0, n1, n2⟩, ⟨x0, x1, x2, x3⟩, _⟩ := KS.out u g
        have FF := Lib.hid (F2.out u g)
        have G := Lib.hid (show Gr W u from g)
        clear g m0 m1 m2 F2
        go_wp2_with fail
        refine FF.out.mono ?_; rintro e u2 ⟨rfl, g2⟩
        have G2 := Lib.hid (G.out.trans g2)
        clear FF n0 n1 n2 x0 x1 x2 x3 G
        obtain ⟨⟨m0, m1, m2⟩, _, ⟨x0, x1, x2, x3⟩, _⟩ := KS.out u2 G2.out
        clear g2
        go_wp2_with fail
        refine (awake19_c _).mono ?_; rintro e ua ⟨rfl, ga⟩
        go_wp2_with fail
        go_ret
        exact ⟨rfl, (GW.out.trans G2.out).trans ga⟩
      · by_cases hs4 : (40 : Int) < (f.name.size : Int)
        · clear hf1 hf2
          go_enter Try.func3, Try.ntmps3
          go_wp2_with fail
          rw [← HW.out]
          refine F1.out.mono ?_; rintro e u ⟨rfl, g⟩
          obtain ⟨_, ⟨n0, n1, n2⟩, ⟨x0, x1, x2, x3⟩, _⟩ := KS.out u g
          have FF := Lib.hid (F2.out u g)
          have G := Lib.hid (show Gr W u from g)
          clear g m0 m1 m2 F2
          go_wp2_with fail
          refine FF.out.mono ?_; rintro e u2 ⟨rfl, g2⟩
          have G2 := Lib.hid (G.out.trans g2)
          clear FF n0 n1 n2 x0 x1 x2 x3 G
          obtain ⟨⟨m0, m1, m2⟩, _, ⟨x0, x1, x2, x3⟩, _⟩ := KS.out u2 G2.out
          clear g2
          go_wp2_with fail
          refine (awake19_c _).mono ?_; rintro e ua ⟨rfl, ga⟩
          go_wp2_with fail
          go_ret
          exact ⟨rfl, (GW.out.trans G2.out).trans ga⟩
        · obtain ⟨l20, n40⟩ := few_mn hf1
          have hsz : s.size ≤ 700 := by omega
          have hfs : f.name.size ≤ 40 := by omega
          have n1000 : ∀ f ∈ m.files, f.name.size ≤ 1000 := fun f hf => by have := n40 f hf; omega
          obtain ⟨x, hx⟩ : ∃ x, ptS m = x := ⟨_, rfl⟩
          obtain ⟨b, hb⟩ : ∃ b, mnB m = b := ⟨_, rfl⟩
          obtain ⟨B, hB⟩ : ∃ B, (findF f.name m.files).isSome = B := ⟨_, rfl⟩
          obtain ⟨E, hE⟩ : ∃ E, (findF f.name m.files).getD flZ = E := ⟨_, rfl⟩
          obtain ⟨q, hq⟩ : ∃ q, mnEq m n = q := ⟨_, rfl⟩
          have PU := fun u (g : Gr W u) => put19_c m u (LM.out u g) HM.out.1 HM.out.2.1
          have RP := fun u (g : Gr W u) => rput19_c m u (LM.out u g) HM.out.1 HM.out.2.1 HM.out.2.2.1 HM.out.2.2.2
          have MR := fun u (g : Gr W u) => mright_c m.stage m.pass ma m.files.length mc m.files u (LM.out u g) HM.out.1 HM.out.2.1
          have RR := fun u (g : Gr W u) => rmright_c m.stage m.pass ma m.files.length mc m.files u (LM.out u g) HM.out.1 HM.out.2.1 HM.out.2.2.1 HM.out.2.2.2
          have FI := fun u (g : Gr W u) => find19_c m.stage m.pass ma m.files.length mc m.files f.name u (LM.out u g) HM.out.1 n1000
          have RF := fun u (g : Gr W u) => rfind_c m.stage m.pass ma m.files.length mc m.files f.name u (LM.out u g) HM.out.1
          have WI := Lib.hid (fun u (g : Gr W u) => with19_c m f u (LM.out u g) (by omega) n1000 (by omega))
          have RW := Lib.hid (fun u (g : Gr W u) => rwith19_c m f u (LM.out u g) (by omega))
          have SA := fun u (g : Gr W u) => same19_c m.stage m.pass n.stage n.pass ma na m.files.length n.files.length mc nc m.files n.files u (LM.out u g) (LN.out u g) HM.out.1 HN.out
          have RS := fun u (g : Gr W u) => rsame19_c m.stage m.pass n.stage n.pass ma na m.files.length n.files.length mc nc m.files n.files u (LM.out u g) (LN.out u g) HM.out.1 HN.out
          have SM := fun u (g : Gr W u) => same19_c m.stage m.pass m.stage m.pass ma ma m.files.length m.files.length mc mc m.files m.files u (LM.out u g) (LM.out u g) HM.out.1 HM.out.1
          have em : (⟨m.stage, m.pass, m.files⟩ : Mn) = m := rfl
          have en : (⟨n.stage, n.pass, n.files⟩ : Mn) = n := rfl
          unfold flV at FI RF
          simp only [hx, hb] at PU RP
          simp only [em, hb] at MR RR
          simp only [hE, hB] at FI RF
          simp only [em, en, hq] at SA RS
          simp only [em, mnEq_iff.2 rfl] at SM
          have PU := Lib.hid PU
          have RP := Lib.hid RP
          have MR := Lib.hid MR
          have RR := Lib.hid RR
          have FI := Lib.hid FI
          have RF := Lib.hid RF
          have SA := Lib.hid SA
          have RS := Lib.hid RS
          have SM := Lib.hid SM
          have GT := Lib.hid (fun u => get19_c s (by omega) u)
          have RG := Lib.hid (fun u => rget19_c s hsz u)
          have WL := Lib.hid (show (withF f m.files).length ≤ maxLen by
            have := with_set f m.files
            split at this <;> rw [this]
            · rw [set_length]; exact HM.out.1
            · rw [List.length_append, set_length, List.length_singleton]; unfold maxLen; omega)
          have xx : (x.toList == x.toList) = true := by simp
          have bb : (b == b) = true := by simp
          have BB : (B == B) = true := by simp
          have qq : (q == q) = true := by simp
          have EE := fl_eql E
          clear hf1 hf2 l20 n40 hfs n1000 hx hb hB hE hq em en hsz
          go_enter Try.func3, Try.ntmps3
          go_wp2_with fail
          rw [← HW.out]
          refine F1.out.mono ?_; rintro e u ⟨rfl, g⟩
          obtain ⟨_, ⟨n0, n1, n2⟩, _, _⟩ := KS.out u g
          have FF := Lib.hid (F2.out u g)
          have G := Lib.hid (show Gr W u from g)
          clear g m0 m1 m2 F2
          go_wp2_with fail
          refine FF.out.mono ?_; rintro e u1 ⟨rfl, g1⟩
          have G1 := Lib.hid (G.out.trans g1)
          clear FF n0 n1 n2 G g1
          obtain ⟨⟨m0, m1, m2⟩, _, ⟨x0, x1, x2, x3⟩, _⟩ := KS.out u1 G1.out
          have P1 := Lib.hid (PU.out u1 G1.out)
          go_wp2_with fail
          refine P1.out.mono ?_; rintro e u2 ⟨rfl, g2⟩
          have G2 := Lib.hid (G1.out.trans g2)
          clear P1 g2 m0 m1 m2 x0 x1 x2 x3
          obtain ⟨⟨m0, m1, m2⟩, _, _, _⟩ := KS.out u2 G2.out
          have P2 := Lib.hid (RP.out u2 G2.out)
          go_wp2_with fail
          refine P2.out.mono ?_; rintro e u3 ⟨rfl, g3⟩
          have G3 := Lib.hid (G2.out.trans g3)
          clear P2 g3 m0 m1 m2
          go_wp2_with fail
          refine (GT.out u3).mono ?_; intro e u4 h4
          obtain ⟨c, ca, cc, t, rfl, hc, hcl, hct, g4⟩ := gt_cases h4
          obtain ⟨V4, hV4⟩ : ∃ V, V = u4.alloc (.cells #[.int .i64 c.stage, .int .i64 c.pass, .slice ca c.files.length cc] 24) := ⟨_, rfl⟩
          have gV4 : Gr u4 V4 := by rw [hV4]; exact gr19 _ _
          have bV4 := mnB_at (show V4.heap[u4.heap.size]? = some (.cells #[.int .i64 c.stage, .int .i64 c.pass, .slice ca c.files.length cc] 24 (0, 0)) by rw [hV4]; exact heap_alloc_new u4 _)
          have HV4 := Lib.hid hV4
          have rV4 := hV4.symm
          have G4 := Lib.hid ((G3.out.trans g4).trans gV4)
          have K4 := Lib.hid (fun u (g : Gr V4 u) => (⟨mnB_gr bV4 g, (hc.gr gV4).gr g⟩ : MnB u u4.heap.size c.stage c.pass (.slice ca c.files.length cc) ∧ LiesFl u (.slice ca c.files.length cc) c.files))
          have HC := Lib.hid (show c.files.length ≤ maxLen ∧ gtIs s c t from ⟨hcl, hct⟩)
          clear h4 hc hcl hct g4 hV4 gV4 bV4
          go_wp2_with fail
          (try rw [← HV4.out])
          clear rV4
          refine (RG.out V4).mono ?_; intro e u5 h5
          obtain ⟨d, da, dc, t2, rfl, hd, _, hdt, g5⟩ := gt_cases h5
          obtain ⟨rfl, rfl⟩ := gtIs_one HC.out.2 hdt
          obtain ⟨V5, hV5⟩ : ∃ V, V = u5.alloc (.cells #[.int .i64 d.stage, .int .i64 d.pass, .slice da d.files.length dc] 24) := ⟨_, rfl⟩
          have gV5 : Gr u5 V5 := by rw [hV5]; exact gr19 _ _
          have bV5 := mnB_at (show V5.heap[u5.heap.size]? = some (.cells #[.int .i64 d.stage, .int .i64 d.pass, .slice da d.files.length dc] 24 (0, 0)) by rw [hV5]; exact heap_alloc_new u5 _)
          have HV5 := Lib.hid hV5
          have rV5 := hV5.symm
          have g45 := g5.trans gV5
          have G5 := Lib.hid (G4.out.trans g45)
          have K5 := Lib.hid (fun u (g : Gr V5 u) => (⟨(K4.out u (g45.trans g)).1, (K4.out u (g45.trans g)).2, mnB_gr bV5 g, (hd.gr gV5).gr g⟩ : MnB u u4.heap.size d.stage d.pass (.slice ca d.files.length cc) ∧ LiesFl u (.slice ca d.files.length cc) d.files ∧ MnB u u5.heap.size d.stage d.pass (.slice da d.files.length dc) ∧ LiesFl u (.slice da d.files.length dc) d.files))
          have tt : (t2 == t2) = true := by simp
          clear h5 hd hdt g5 hV5 gV5 bV5 g45
          obtain ⟨⟨m0, m1, m2⟩, _, ⟨x0, x1, x2, x3⟩, _⟩ := KS.out V5 G5.out
          have F5 := Lib.hid (FI.out V5 G5.out)
          go_wp2_with fail
          (try rw [← HV5.out])
          clear rV5
          refine F5.out.mono ?_; rintro e u6 ⟨rfl, g6⟩
          obtain ⟨V6, hV6⟩ : ∃ V, V = u6.alloc (.cells #[.string E.name, .int .i64 E.size, .int .i64 E.count, .int .u32 E.sum] 27) := ⟨_, rfl⟩
          have gV6 : Gr u6 V6 := by rw [hV6]; exact gr19 _ _
          have bV6 := flB_at (show V6.heap[u6.heap.size]? = some (.cells #[.string E.name, .int .i64 E.size, .int .i64 E.count, .int .u32 E.sum] 27 (0, 0)) by rw [hV6]; exact heap_alloc_new u6 _)
          have HV6 := Lib.hid hV6
          have rV6 := hV6.symm
          have g56 := g6.trans gV6
          have G6 := Lib.hid (G5.out.trans g56)
          have K6 := Lib.hid (fun u (g : Gr V6 u) => (⟨K5.out u (g56.trans g), flB_gr bV6 g⟩ : (MnB u u4.heap.size d.stage d.pass (.slice ca d.files.length cc) ∧ LiesFl u (.slice ca d.files.length cc) d.files ∧ MnB u u5.heap.size d.stage d.pass (.slice da d.files.length dc) ∧ LiesFl u (.slice da d.files.length dc) d.files) ∧ FlB u u6.heap.size E))
          clear F5 g6 hV6 gV6 bV6 g56 m0 m1 m2 x0 x1 x2 x3
          obtain ⟨⟨m0, m1, m2⟩, _, ⟨x0, x1, x2, x3⟩, _⟩ := KS.out V6 G6.out
          have F6 := Lib.hid (RF.out V6 G6.out)
          go_wp2_with fail
          (try rw [← HV6.out])
          clear rV6
          refine F6.out.mono ?_; rintro e u7 ⟨rfl, g7⟩
          obtain ⟨V7, hV7⟩ : ∃ V, V = u7.alloc (.cells #[.string E.name, .int .i64 E.size, .int .i64 E.count, .int .u32 E.sum] 27) := ⟨_, rfl⟩
          have gV7 : Gr u7 V7 := by rw [hV7]; exact gr19 _ _
          have bV7 := flB_at (show V7.heap[u7.heap.size]? = some (.cells #[.string E.name, .int .i64 E.size, .int .i64 E.count, .int .u32 E.sum] 27 (0, 0)) by rw [hV7]; exact heap_alloc_new u7 _)
          have HV7 := Lib.hid hV7
          have rV7 := hV7.symm
          have g67 := g7.trans gV7
          have G7 := Lib.hid (G6.out.trans g67)
          have KZ := Lib.hid (fun u (g : Gr V7 u) => (⟨g, (KS.out u (G7.out.trans g)).1, (KS.out u (G7.out.trans g)).2.1, (KS.out u (G7.out.trans g)).2.2.1, (K6.out u (g67.trans g)).1.1, (K6.out u (g67.trans g)).1.2.2.1, (K6.out u (g67.trans g)).2, flB_gr bV7 g⟩ : Gr V7 u ∧ MnB u w.heap.size m.stage m.pass (.slice ma m.files.length mc) ∧ MnB u (w.heap.size + 1) n.stage n.pass (.slice na n.files.length nc) ∧ FlB u (w.heap.size + 1 + 1) f ∧ MnB u u4.heap.size d.stage d.pass (.slice ca d.files.length cc) ∧ MnB u u5.heap.size d.stage d.pass (.slice da d.files.length dc) ∧ FlB u u6.heap.size E ∧ FlB u u7.heap.size E))
          have KL := Lib.hid (fun u (g : Gr V7 u) => (⟨(K6.out u (g67.trans g)).1.2.1, (K6.out u (g67.trans g)).1.2.2.2⟩ : LiesFl u (.slice ca d.files.length cc) d.files ∧ LiesFl u (.slice da d.files.length dc) d.files))
          have gd : Gr V7 V7.drew := (Gr.refl V7).drew
          have A1 := Lib.hid (fun u (g : Gr V7 u) => (MR.out u (G7.out.trans g)).mono fun e w' hh => (⟨hh.1, g.trans hh.2⟩ : e = .returned (.bool b) ∧ Gr V7 w'))
          have A2 := Lib.hid (fun u (g : Gr V7 u) => (RR.out u (G7.out.trans g)).mono fun e w' hh => (⟨hh.1, g.trans hh.2⟩ : e = .returned (.bool b) ∧ Gr V7 w'))
          have A3 := Lib.hid (fun u (g : Gr V7 u) => (rsame_one d u (KL.out u g).1 (KL.out u g).2 HC.out.1).mono fun e w' hh => (⟨hh.1, g.trans hh.2⟩ : e = .returned (.bool true) ∧ Gr V7 w'))
          have A4 := Lib.hid (fun u (g : Gr V7 u) => (WI.out u (G7.out.trans g)).mono fun e w' hh => by
            obtain ⟨v, e1, e2, e3⟩ := hh
            exact (⟨v, e1, e2, g.trans e3⟩ : ∃ v, e = .returned (.agg #[.int .i64 m.stage, .int .i64 m.pass, v]) ∧ LiesFl w' v (withF f m.files) ∧ Gr V7 w'))
          have A5 := Lib.hid (fun u (g : Gr V7 u) => (RW.out u (G7.out.trans g)).mono fun e w' hh => by
            obtain ⟨v, e1, e2, e3⟩ := hh
            exact (⟨v, e1, e2, e3, g.trans e3⟩ : ∃ v, e = .returned (.agg #[.int .i64 m.stage, .int .i64 m.pass, v]) ∧ LiesFl w' v (withF f m.files) ∧ Gr u w' ∧ Gr V7 w'))
          have A6 := Lib.hid (fun u v v' (g : Gr V7 u) (h : LiesFl u v (withF f m.files)) (h' : LiesFl u v' (withF f m.files)) => (rsame_one ⟨m.stage, m.pass, withF f m.files⟩ u h h' WL.out).mono fun e w' hh => (⟨hh.1, g.trans hh.2⟩ : e = .returned (.bool true) ∧ Gr V7 w'))
          have A7 := Lib.hid (fun u (g : Gr V7 u) => (SA.out u (G7.out.trans g)).mono fun e w' hh => (⟨hh.1, g.trans hh.2⟩ : e = .returned (.bool q) ∧ Gr V7 w'))
          have A8 := Lib.hid (fun u (g : Gr V7 u) => (RS.out u (G7.out.trans g)).mono fun e w' hh => (⟨hh.1, g.trans hh.2⟩ : e = .returned (.bool q) ∧ Gr V7 w'))
          have A9 := Lib.hid (fun u (g : Gr V7 u) => (SM.out u (G7.out.trans g)).mono fun e w' hh => (⟨hh.1, g.trans hh.2⟩ : e = .returned (.bool true) ∧ Gr V7 w'))
          have A10 := Lib.hid (fun u (g : Gr V7 u) => (awake19_c u).mono fun e w' hh => (⟨hh.1, g.trans hh.2⟩ : e = .returned (.bool true) ∧ Gr V7 w'))
          have FIN := Lib.hid (fun u (g : Gr V7 u) => (GW.out.trans G7.out).trans g)
          clear F6 g7 hV7 gV7 bV7 g67 m0 m1 m2 x0 x1 x2 x3
          go_wp2_with fail
          (try rw [← HV7.out])
          clear rV7
          have sd := KZ.out _ gd
          unfold MnB FlB at KZ sd
          go_region_held3 (fun u => Gr V7 u ∧ (u.cell? ⟨w.heap.size, 0, none⟩ = some (.int .i64 m.stage) ∧ u.cell? ⟨w.heap.size, 1, none⟩ = some (.int .i64 m.pass) ∧ u.cell? ⟨w.heap.size, 2, none⟩ = some (.slice ma m.files.length mc)) ∧ (u.cell? ⟨w.heap.size + 1, 0, none⟩ = some (.int .i64 n.stage) ∧ u.cell? ⟨w.heap.size + 1, 1, none⟩ = some (.int .i64 n.pass) ∧ u.cell? ⟨w.heap.size + 1, 2, none⟩ = some (.slice na n.files.length nc)) ∧ (u.cell? ⟨w.heap.size + 1 + 1, 0, none⟩ = some (.string f.name) ∧ u.cell? ⟨w.heap.size + 1 + 1, 1, none⟩ = some (.int .i64 f.size) ∧ u.cell? ⟨w.heap.size + 1 + 1, 2, none⟩ = some (.int .i64 f.count) ∧ u.cell? ⟨w.heap.size + 1 + 1, 3, none⟩ = some (.int .u32 f.sum)) ∧ (u.cell? ⟨u4.heap.size, 0, none⟩ = some (.int .i64 d.stage) ∧ u.cell? ⟨u4.heap.size, 1, none⟩ = some (.int .i64 d.pass) ∧ u.cell? ⟨u4.heap.size, 2, none⟩ = some (.slice ca d.files.length cc)) ∧ (u.cell? ⟨u5.heap.size, 0, none⟩ = some (.int .i64 d.stage) ∧ u.cell? ⟨u5.heap.size, 1, none⟩ = some (.int .i64 d.pass) ∧ u.cell? ⟨u5.heap.size, 2, none⟩ = some (.slice da d.files.length dc)) ∧ (u.cell? ⟨u6.heap.size, 0, none⟩ = some (.string E.name) ∧ u.cell? ⟨u6.heap.size, 1, none⟩ = some (.int .i64 E.size) ∧ u.cell? ⟨u6.heap.size, 2, none⟩ = some (.int .i64 E.count) ∧ u.cell? ⟨u6.heap.size, 3, none⟩ = some (.int .u32 E.sum)) ∧ (u.cell? ⟨u7.heap.size, 0, none⟩ = some (.string E.name) ∧ u.cell? ⟨u7.heap.size, 1, none⟩ = some (.int .i64 E.size) ∧ u.cell? ⟨u7.heap.size, 2, none⟩ = some (.int .i64 E.count) ∧ u.cell? ⟨u7.heap.size, 3, none⟩ = some (.int .u32 E.sum))) (first | assumption | exact KZ.out _ (by assumption) | go_keep)
            (first
              | (go_at_call 13; (with_reducible refine (A1.out _ gd).mono ?_); rintro e t1 ⟨rfl, h1⟩; have k1 := KZ.out _ h1)
              | (go_at_call 14; (with_reducible refine (A2.out _ h1).mono ?_); rintro e t2 ⟨rfl, h2⟩; have k2 := KZ.out _ h2)
              | (go_at_call 15; (with_reducible refine (A3.out _ h2).mono ?_); rintro e t3 ⟨rfl, h3⟩; have k3 := KZ.out _ h3)
              | (go_at_call 16; (with_reducible refine (A4.out _ h3).mono ?_); rintro e t4 ⟨v4, rfl, l4, h4⟩; have k4 := KZ.out _ h4)
              | (go_at_call 17; (with_reducible refine (A5.out _ h4).mono ?_); rintro e t5 ⟨v5, rfl, l5, g5, h5⟩; have l4b := l4.gr g5; have k5 := KZ.out _ h5)
              | (go_at_call 15; (with_reducible refine (A6.out _ _ _ h5 l4b l5).mono ?_); rintro e t6 ⟨rfl, h6⟩; have k6 := KZ.out _ h6)
              | (go_at_call 18; (with_reducible refine (A7.out _ h6).mono ?_); rintro e t7 ⟨rfl, h7⟩; have k7 := KZ.out _ h7)
              | (go_at_call 15; (with_reducible refine (A8.out _ h7).mono ?_); rintro e t8 ⟨rfl, h8⟩; have k8 := KZ.out _ h8)
              | (go_at_call 18; (with_reducible refine (A9.out _ h8).mono ?_); rintro e t9 ⟨rfl, h9⟩; have k9 := KZ.out _ h9)
              | (go_at_call 6; (with_reducible refine (A10.out _ h9).mono ?_); rintro e t10 ⟨rfl, h10⟩; have k10 := KZ.out _ h10))
          all_goals
            go_wp2_with fail
            go_ret
            exact ⟨rfl, FIN.out _ h10⟩

set_option maxRecDepth 100000 in
theorem lifted (os : Os) (started : os.Started) (H : Type) (enc : TypeId × Value → H) :
    ReturnsInHanded {} Try.checked os 3 .any (Rows.manifestTellsSpec.pre6 enc Try.prog Try.f3 Rows.manifestTellsRow.domain false) (Rows.manifestTellsSpec.post enc Try.prog Try.f3 false true false false) := by
  refine returnsInHanded_of_change (C := Try.checked) own started (by kernel_rfl) Try.func3
    (ChangeSpec.witness6 (enc := enc) (C := Try.checked) false ⟨#[], #[.agg #[.int .i64 0, .int .i64 0, .slice none 0 0], .agg #[.int .i64 0, .int .i64 0, .slice none 0 0], .string ByteArray.empty, .agg #[.string ByteArray.empty, .int .i64 0, .int .i64 0, .int .u32 0]], []⟩ 8 (by kernel_rfl) (by kernel_rfl) (by kernel_rfl) (by kernel_rfl)) ?_
  intro W base args ds gs before hval0 hW hcnd _
  have hval : ∀ (j : Nat) t v, Try.f3.params[j]? = some t → args[j]? = some v → Value.okWide Try.prog W .any base t v := hval0
  have hW' := hW
  obtain ⟨p, q, hA0, hV, rfl, hfz, hnd⟩ := hW
  have hA : DataW.TrodAll enc Try.prog W 0 (fun _ => true) true Try.f3.params.toList args.toList ds p := hA0
  rw [Try.params3] at hA hval
  obtain ⟨v0, vs0, d0, ds0, p0, q0, hargs, rfl, rfl, h0, r0⟩ := trodAll_cons hA
  obtain ⟨v1, vs1, d1, ds1, p1, q1, rfl, rfl, rfl, h1, r1⟩ := trodAll_cons r0
  obtain ⟨v2, vs2, d2, ds2, p2, q2, rfl, rfl, rfl, h2, r2⟩ := trodAll_cons r1
  obtain ⟨v3, vs3, d3, ds3, p3, q3, rfl, rfl, rfl, h3, r3⟩ := trodAll_cons r2
  obtain ⟨rfl, rfl, rfl⟩ := trodAll_nil r3
  obtain rfl : args = #[v0, v1, v2, v3] := by cases args; simp_all
  obtain ⟨rfl, rfl⟩ := trodVars_none hV
  have k0 := h0
  have lt0 : ∀ x ∈ p0, x.block < W.heap.size := by obtain ⟨m, hm⟩ := k0; exact DataW.trod_lt m _ _ _ hm
  have w0 : RdAgg Try.prog W 24 v0 := rd_agg Try.underlying24 (by kernel_rfl) (by kernel_rfl) (hval 0 24 v0 rfl rfl) h0
  have k1 := h1
  have lt1 : ∀ x ∈ p1, x.block < W.heap.size := by obtain ⟨m, hm⟩ := k1; exact DataW.trod_lt m _ _ _ hm
  have w1 : RdAgg Try.prog W 24 v1 := rd_agg Try.underlying24 (by kernel_rfl) (by kernel_rfl) (hval 1 24 v1 rfl rfl) h1
  have k2 := h2
  have lt2 : ∀ x ∈ p2, x.block < W.heap.size := by obtain ⟨m, hm⟩ := k2; exact DataW.trod_lt m _ _ _ hm
  obtain ⟨n2, e2⟩ := okWide_string Try.underlying9 (hval 2 9 v2 rfl rfl)
  have w2 : Rd Try.prog W 9 v2 := by
    obtain ⟨fuel, hf⟩ := h2
    subst e2
    exact ⟨H, enc, fuel, _, by simpa [Value.cells] using hf⟩
  have k3 := h3
  have lt3 : ∀ x ∈ p3, x.block < W.heap.size := by obtain ⟨m, hm⟩ := k3; exact DataW.trod_lt m _ _ _ hm
  have w3 : RdAgg Try.prog W 27 v3 := rd_agg Try.underlying27 (by kernel_rfl) (by kernel_rfl) (hval 3 27 v3 rfl rfl) h3
  clear hA0 hval0
  refine (walk v0 v1 v2 v3 W w0 w1 w2 w3).mono fun e W' ⟨he, bel⟩ => ?_
  subst he
  exact ⟨_, rfl, _, _, _, [], _, [], hW', trodAll_mk1 (shut_bool Try.underlying4 _), (trodAll_cons_mk (Below.trod laidOut (by kernel_rfl) (of_decide_eq_true (by kernel_rfl)) k0 bel lt0) (trodAll_cons_mk (Below.trod laidOut (by kernel_rfl) (of_decide_eq_true (by kernel_rfl)) k1 bel lt1) (trodAll_cons_mk (Below.trod laidOut (by kernel_rfl) (of_decide_eq_true (by kernel_rfl)) k2 bel lt2) (trodAll_cons_mk (Below.trod laidOut (by kernel_rfl) (of_decide_eq_true (by kernel_rfl)) k3 bel lt3) trodAll_mk0)))), rfl, bel.frame _, fun h => by cases h⟩

theorem over : Rows.manifestTellsRow.holds Try.pinned (OpenSpec.ofChange Rows.manifestTellsSpec) :=
  OpenClaim.holds_of_wide 3 Try.f3 rfl rfl rfl rfl rfl rfl rfl ⟨rfl, rfl, rfl, rfl, rfl⟩ rfl rfl rfl rfl rfl (by kernel_rfl) Try.func3 (by kernel_rfl)
    (of_decide_eq_true (by kernel_rfl)) (by unfold Func.isWrapper; first | (rw [if_pos (by decide +kernel)]; kernel_rfl) | (rw [if_neg (by decide +kernel)]; exact ⟨rfl, rfl⟩))
    (fun os started H enc _ => lifted os started H enc)

theorem proved : Rows.ManifestTellsSaid := over
#print axioms proved
end Go.Proofs.Ytgobdapngbpoeaa.manifestTells
