/- Rows.ManifestBackSaid holds: for every input the law returns true and leaves its arguments as they were. Conditions: none beside the row's own. -/
import Derived.Test.YtgobdapngbpoeaaRows
import Derived.WalkKit
import Derived.ProofKit
import Derived.OpenShut
import Derived.ShutString
import Derived.ChangeOld
import Derived.Below
import Derived.Test.YtgobdapngbpoeaaP00
import Derived.Test.YtgobdapngbpoeaaP33
namespace Go.Proofs.Ytgobdapngbpoeaa.manifestBack
open Go.ChangeShapes Go.WideShapes Go.ChangeAt Go.RowKit
open Go.ChangeMaps (open_string shut_string)
open FsPlain CrcPlain OctPlain MnPlain
set_option linter.unusedVariables false
set_option linter.unusedSimpArgs false

theorem own : ownKnob Try.prog.godebug = none := by kernel_rfl
theorem laidOut : laidOutB Try.prog = true := by kernel_rfl


set_option maxRecDepth 100000 in
set_option maxHeartbeats 8000000 in
theorem walk (v0 v1 v2 v3 : Value) (w : World) (w0 : RdAgg Try.prog w 24 v0) (w1 : Rd Try.prog w 39 v1) (w2 : Rd Try.prog w 25 v2) (w3 : RdAgg Try.prog w 27 v3) :
    Calls Try.prog 4 #[v0, v1, v2, v3] w fun e w' => e = .returned (.bool true) ∧ Gr w w' := by
  obtain ⟨m, ma, mc, rfl, hm, hml, hmK, hms, hmp⟩ := mn_in w0
  obtain ⟨a1, rfl, wf1⟩ := rd_int Try.underlying39 w1
  obtain ⟨a2, rfl, wf2⟩ := rd_int Try.underlying25 w2
  obtain ⟨f, rfl, hfK⟩ := fl_in w3
  have b1 := bounds_u16 wf1
  have b2 := bounds_u32 wf2
  obtain ⟨k1, rfl⟩ : ∃ k : Nat, a1 = k := ⟨a1.toNat, by omega⟩
  obtain ⟨k2, rfl⟩ : ∃ k : Nat, a2 = k := ⟨a2.toNat, by omega⟩
  have hk2 : k2 < 4294967296 := by omega
  have hk1 : (k1 : Int) ≤ 65535 := by omega
  clear w0 w1 w2 w3 wf1 wf2 b1 b2
  obtain ⟨W, hW⟩ : ∃ W, W = (w.alloc (.cells #[.int .i64 m.stage, .int .i64 m.pass, .slice ma m.files.length mc] 24)).alloc (.cells #[.string f.name, .int .i64 f.size, .int .i64 f.count, .int .u32 f.sum] 27) := ⟨_, rfl⟩
  have gW : Gr w W := by rw [hW]; exact ((Gr.refl w).alloc (Nat.le_refl _) _).alloc (by simp) _
  have y0 : W.heap[w.heap.size]? = some (.cells #[.int .i64 m.stage, .int .i64 m.pass, .slice ma m.files.length mc] 24 (0, 0)) := by
    rw [hW, Below.heap_alloc _ _ _ (by simp)]
    exact heap_alloc_new w _
  have y1 : W.heap[w.heap.size + 1]? = some (.cells #[.string f.name, .int .i64 f.size, .int .i64 f.count, .int .u32 f.sum] 27 (0, 0)) := by
    rw [hW]
    have := heap_alloc_new (w.alloc (.cells #[.int .i64 m.stage, .int .i64 m.pass, .slice ma m.files.length mc] 24)) (.cells #[.string f.name, .int .i64 f.size, .int .i64 f.count, .int .u32 f.sum] 27)
    rwa [World.size_alloc] at this
  have b0 := mnB_at y0
  have b1 := flB_at y1
  have KS := Lib.hid (fun u (g : Gr W u) => (⟨mnB_gr b0 g, flB_gr b1 g, gW.trans g⟩ : MnB u w.heap.size m.stage m.pass (.slice ma m.files.length mc) ∧ FlB u (w.heap.size + 1) f ∧ Gr w u))
  have LM := Lib.hid (fun u (g : Gr W u) => hm.gr (gW.trans g))
  have HM := Lib.hid (show m.files.length ≤ maxLen ∧ (∀ f ∈ m.files, flK f) ∧ I64 m.stage ∧ I64 m.pass from ⟨hml, hmK, hms, hmp⟩)
  have HF := Lib.hid hfK
  have HW := Lib.hid hW
  have GW := Lib.hid gW
  have F1 := rfew_c m.stage m.pass ma m.files.length mc m.files W (LM.out W (Gr.refl W)) hml
  obtain ⟨⟨m0, m1, m2⟩, _, _⟩ := KS.out W (Gr.refl W)
  clear hm hml hmK hms hmp hfK gW y0 y1 b0 b1 hW
  cases hf1 : fewB m.files
  · rw [hf1] at F1
    have F1 := Lib.hid F1
    clear hf1
    go_enter Try.func4, Try.ntmps4
    go_wp2_with fail
    rw [← HW.out]
    refine F1.out.mono ?_; rintro e u ⟨rfl, g⟩
    have G := Lib.hid (GW.out.trans g)
    clear g m0 m1 m2
    go_wp2_with fail
    refine (awake19_c _).mono ?_; rintro e ua ⟨rfl, ga⟩
    go_wp2_with fail
    go_ret
    exact ⟨rfl, G.out.trans ga⟩
  · rw [hf1] at F1
    have F1 := Lib.hid F1
    by_cases hs4 : (40 : Int) < (f.name.size : Int)
    · clear hf1
      go_enter Try.func4, Try.ntmps4
      go_wp2_with fail
      rw [← HW.out]
      refine F1.out.mono ?_; rintro e u ⟨rfl, g⟩
      obtain ⟨_, ⟨x0, x1, x2, x3⟩, _⟩ := KS.out u g
      have G := Lib.hid (show Gr W u from g)
      clear m0 m1 m2
      clear g
      go_wp2_with fail
      refine (awake19_c _).mono ?_; rintro e ua ⟨rfl, ga⟩
      go_wp2_with fail
      go_ret
      exact ⟨rfl, (GW.out.trans G.out).trans ga⟩
    · obtain ⟨l20, n40⟩ := few_mn hf1
      have hfs : f.name.size ≤ 40 := by omega
      have n1000 : ∀ g ∈ m.files, g.name.size ≤ 1000 := fun g hg => by have := n40 g hg; omega
      have hwl := with_len f m.files
      have hwn := with_names (g := f) (k := 1000) (by omega) n1000
      obtain ⟨e1, e2⟩ := find_with_get f m.files
      have WI := Lib.hid (fun u (g : Gr W u) => with19_c m f u (LM.out u g) (by omega) n1000 (by omega))
      have FI0 := fun (u : World) (a : Option Addr) (k c : Nat) (h : LiesFl u (.slice a k c) (withF f m.files)) => find19_c m.stage m.pass a k c (withF f m.files) f.name u h (by unfold maxLen; omega) hwn
      rw [e1, e2] at FI0
      unfold flV at FI0
      have FI := Lib.hid (fun (u : World) (v : Value) (h : LiesFl u v (withF f m.files)) => (show Calls Try.prog 11 #[.agg #[.int .i64 m.stage, .int .i64 m.pass, v], .string f.name] u fun e w' => e = .returned (.tuple #[.agg #[.string f.name, .int .i64 f.size, .int .i64 f.count, .int .u32 f.sum], .bool true]) ∧ Gr u w' from by
        obtain ⟨a, c, e, _⟩ := id h
        subst e
        exact FI0 u a _ c h))
      have PU := Lib.hid (fun u (g : Gr W u) => put19_c m u (LM.out u g) HM.out.1 HM.out.2.1)
      have NE := fun u => fl_neq f f u
      rw [flEq_iff.2 rfl] at NE
      clear FI0 e1 e2 hwl hwn l20 n40 n1000 hfs hf1
      go_enter Try.func4, Try.ntmps4
      go_wp2_with fail
      rw [← HW.out]
      refine F1.out.mono ?_; rintro e u ⟨rfl, g⟩
      obtain ⟨_, ⟨x0, x1, x2, x3⟩, _⟩ := KS.out u g
      have G := Lib.hid (show Gr W u from g)
      clear m0 m1 m2
      have hd : Gr u u.drew := (Gr.refl u).drew
      have KU := Lib.hid (fun t (h : Gr u t) => (⟨h, (KS.out t (G.out.trans h)).1, (KS.out t (G.out.trans h)).2.1⟩ : Gr u t ∧ MnB t w.heap.size m.stage m.pass (.slice ma m.files.length mc) ∧ FlB t (w.heap.size + 1) f))
      have WJ := Lib.hid (fun t (h : Gr u t) => WI.out t (G.out.trans h))
      clear g
      go_upto_region 3 with (fail)
      clear x0 x1 x2 x3
      go_cut [9, 10] (fun vx vb wx => XCut u f vx vb wx)
      case first =>
        unfold MnB FlB at KU
        obtain ⟨_, ⟨m0, m1, m2⟩, ⟨x0, x1, x2, x3⟩⟩ := KU.out u (Gr.refl u)
        go_region_held3 (fun t => Gr u t ∧ (t.cell? ⟨w.heap.size, 0, none⟩ = some (.int .i64 m.stage) ∧ t.cell? ⟨w.heap.size, 1, none⟩ = some (.int .i64 m.pass) ∧ t.cell? ⟨w.heap.size, 2, none⟩ = some (.slice ma m.files.length mc)) ∧ (t.cell? ⟨w.heap.size + 1, 0, none⟩ = some (.string f.name) ∧ t.cell? ⟨w.heap.size + 1, 1, none⟩ = some (.int .i64 f.size) ∧ t.cell? ⟨w.heap.size + 1, 2, none⟩ = some (.int .i64 f.count) ∧ t.cell? ⟨w.heap.size + 1, 3, none⟩ = some (.int .u32 f.sum)))
          (first | assumption | exact KU.out _ (by repeat (first | assumption | exact Gr.refl _ | refine grd19 ?_ | refine gra19 ?_ | refine grs19 ?_ (by first | exact Nat.le_refl _ | exact q4.size))) | go_keep)
          (first
            | (go_at_call 16; (with_reducible refine (WJ.out _ (by repeat (first | assumption | exact Gr.refl _ | refine grd19 ?_ | refine gra19 ?_))).mono ?_); rintro e t4 ⟨v4, rfl, l4, g4⟩; have q4 : Gr u t4 := Gr.trans (by repeat (first | assumption | exact Gr.refl _ | refine grd19 ?_ | refine gra19 ?_)) g4)
            | (go_at_call 11; (with_reducible refine (FI.out _ _ (by first | assumption | exact LiesFl.gr (by assumption) (gr19 _ _))).mono ?_); rintro e t5 ⟨rfl, g5⟩; have q5 : Gr u t5 := Gr.trans (by repeat (first | assumption | exact Gr.refl _ | refine grd19 ?_ | refine gra19 ?_)) g5; (first | (have zb := fl_zero19d (Gr.trans g4 g5); obtain ⟨⟨z0, z1, z2, z3⟩, zf0, zf1, zf2, zf3⟩ := fl_zeros zb) | (have zb := fl_zero19 g5; obtain ⟨⟨z0, z1, z2, z3⟩, zf0, zf1, zf2, zf3⟩ := fl_zeros zb) | skip)))
        all_goals
          go_wp2_with fail
          go_meet
        all_goals first
          | exact xcut_new q5
          | exact xcut_set q5 (Nat.le_refl _) zb
          | exact xcut_set q5 q4.size zb
      case rest =>
      obtain ⟨p, rfl, rfl, hp, gx⟩ := hcut
      have hpx := flB_at hp
      have GX := Lib.hid (G.out.trans gx)
      obtain ⟨⟨m0, m1, m2⟩, ⟨x0, x1, x2, x3⟩, _⟩ := KS.out wc GX.out
      obtain ⟨p0, p1, p2, p3⟩ := hpx
      have PX := Lib.hid (PU.out wc GX.out)
      have hnb := Lib.hid (show ∀ t, Gr wc t → MnB t w.heap.size m.stage m.pass (.slice ma m.files.length mc) ∧ LiesFl t (.slice ma m.files.length mc) m.files from fun t h => ⟨(KS.out t (GX.out.trans h)).1, LM.out t (GX.out.trans h)⟩)
      clear hp gx PU WI FI
      cases hmb : mnB m with
      | false =>
        rw [hmb, pt_no hmb] at PX
        clear hmb
        go_wp2_with fail
        refine PX.out.mono ?_; rintro e u2 ⟨rfl, g2⟩
        have G2 := Lib.hid (GX.out.trans g2)
        clear g2 m0 m1 m2 x0 x1 x2 x3 p0 p1 p2 p3
        go_wp2_with fail
        refine (awake19_c _).mono ?_; rintro e ua ⟨rfl, ga⟩
        go_wp2_with fail
        go_ret
        exact ⟨rfl, (GW.out.trans G2.out).trans ga⟩
      | true =>
        have hx1 := ptS_size (m := m)
        rw [pt_yes hmb] at hx1
        rw [hmb, pt_yes hmb] at PX
        have his := mnS_is hmb HM.out.2.1
        have hx13 : 13 ≤ (mnS m).size := by rw [mnS_size]; omega
        obtain ⟨x, hx⟩ : ∃ x, mnS m = x := ⟨_, rfl⟩
        rw [hx] at PX hx1 his hx13
        obtain ⟨k, hk, hk3⟩ : ∃ k : Nat, (k1 : Int) % (8 * (x.size : Int)) = (k : Int) ∧ k < 8 * x.size := by
          refine ⟨k1 % (8 * x.size), ?_, ?_⟩
          · rw [Int.natCast_emod]; rfl
          · exact Nat.mod_lt k1 (by omega)
        have GT := Lib.hid (fun t => get19_c x hx1 t)
        have TU := Lib.hid (fun t => turned_c x k k2 hx1 hk3 hk2 t)
        have SO := Lib.hid (fun t v v' (h : LiesFl t v m.files) (h' : LiesFl t v' m.files) => rsame_one m t h h' HM.out.1)
        have q13 : ¬ (x.size : Int) < 13 := by omega
        have qx : (x.size : Int) ≤ 1000 := by omega
        have q0 : ¬ (8 * (x.size : Int)) = 0 := by omega
        have HX := Lib.hid (show mnS m = x ∧ x.size ≤ 1000 ∧ k < 8 * x.size from ⟨hx, hx1, hk3⟩)
        have HIS := Lib.hid his
        clear hmb hx his hx13 hk3
        go_wp2_with fail
        refine PX.out.mono ?_; rintro e u2 ⟨rfl, g2⟩
        have G2 := Lib.hid (show Gr wc u2 from g2)
        clear g2 m0 m1 m2 x0 x1 x2 x3 p0 p1 p2 p3 PX
        go_wp2_with fail
        refine (GT.out u2).mono ?_; intro e u3 h3
        obtain ⟨c, ca, cc, t, rfl, hc, hcl, hct, g3⟩ := gt_cases h3
        obtain ⟨rfl, rfl⟩ := gtIs_one (.inl ⟨rfl, HIS.out⟩) hct
        obtain ⟨V, hV⟩ : ∃ V, V = u3.alloc (.cells #[.int .i64 c.stage, .int .i64 c.pass, .slice ca c.files.length cc] 24) := ⟨_, rfl⟩
        have gV : Gr u3 V := by rw [hV]; exact gr19 _ _
        have bV := mnB_at (show V.heap[u3.heap.size]? = some (.cells #[.int .i64 c.stage, .int .i64 c.pass, .slice ca c.files.length cc] 24 (0, 0)) by rw [hV]; exact heap_alloc_new u3 _)
        have KV := Lib.hid (fun t (h : Gr V t) => (⟨mnB_gr bV h, (hc.gr gV).gr h⟩ : MnB t u3.heap.size c.stage c.pass (.slice ca c.files.length cc) ∧ LiesFl t (.slice ca c.files.length cc) c.files))
        have GV := Lib.hid ((G2.out.trans g3).trans gV)
        have HV := Lib.hid hV
        clear h3 hc hcl hct g3 hV gV bV
        go_wp2_with fail
        rw [← HV.out]
        refine (TU.out V).mono ?_; rintro e u4 ⟨l, v, t, hv, ht, htv, rfl, g4⟩
        have G4 := Lib.hid (show Gr V u4 from g4)
        have hlz : (bs l).size ≤ 1000 := by rw [bs_size, ht.1]; exact HX.out.2.1
        have GL := Lib.hid (get19_c (bs l) hlz u4)
        obtain ⟨hx, _, hk3⟩ := HX.out
        clear hlz g4
        by_cases h0 : v = 0
        · obtain rfl : t = false := by rw [htv]; simp [h0]
          have hsame : bs l = x := by rw [← hx] at ht ⊢; exact op_same ht h0
          have HI2 := Lib.hid (show mnIs (bs l) c by rw [hsame]; exact HIS.out)
          clear ht htv hsame h0 hx hv hk3
          go_wp2_with fail
          refine GL.out.mono ?_; intro e u5 h5
          obtain ⟨d, da, dc, t5, rfl, _, _, hdt, g5⟩ := gt_cases h5
          obtain ⟨rfl, rfl⟩ := gtIs_one (.inl ⟨rfl, HI2.out⟩) hdt
          have G5 := Lib.hid (G4.out.trans (g5.trans (gr19 u5 (.cells #[.int .i64 d.stage, .int .i64 d.pass, .slice da d.files.length dc] 24))))
          obtain ⟨V6, hV6⟩ : ∃ V, u5.alloc (.cells #[.int .i64 d.stage, .int .i64 d.pass, .slice da d.files.length dc] 24) = V := ⟨_, rfl⟩
          rw [hV6] at G5
          obtain ⟨⟨k0, k1', k2'⟩, kl⟩ := KV.out V6 G5.out
          obtain ⟨⟨m0, m1, m2⟩, ml⟩ := hnb.out V6 (GV.out.trans G5.out)
          have SS := Lib.hid (SO.out V6 _ _ kl ml)
          clear h5 hdt g5 kl ml
          go_wp2_with fail
          refine SS.out.mono ?_; rintro e u6 ⟨rfl, g6⟩
          have G6 := Lib.hid (((GW.out.trans GX.out).trans (GV.out.trans G5.out)).trans g6)
          clear g6 k0 k1' k2' m0 m1 m2
          go_wp2_with fail
          refine (awake19_c _).mono ?_; rintro e ua ⟨rfl, ga⟩
          go_wp2_with fail
          go_ret
          exact ⟨rfl, G6.out.trans ga⟩
        · obtain rfl : t = true := by rw [htv]; simp [h0]
          have HI2 := Lib.hid (show ∀ o, ¬ mnIs (bs l) o from fun o => mn_turned (m := c) (by rw [hx]; exact ht) (by rw [hx]; exact hk3) hv h0 o)
          clear ht htv h0 hx hv hk3
          go_wp2_with fail
          refine GL.out.mono ?_; intro e u5 h5
          obtain ⟨d, da, dc, t5, rfl, _, _, hdt, g5⟩ := gt_cases h5
          obtain rfl : t5 = false := by
            rcases hdt with ⟨_, h⟩ | ⟨h, _⟩
            · exact absurd h (HI2.out _)
            · exact h
          have G5 := Lib.hid (G4.out.trans (g5.trans (gr19 u5 (.cells #[.int .i64 d.stage, .int .i64 d.pass, .slice da d.files.length dc] 24))))
          obtain ⟨V6, hV6⟩ : ∃ V, u5.alloc (.cells #[.int .i64 d.stage, .int .i64 d.pass, .slice da d.files.length dc] 24) = V := ⟨_, rfl⟩
          rw [hV6] at G5
          obtain ⟨⟨k0, k1', k2'⟩, kl⟩ := KV.out V6 G5.out
          obtain ⟨⟨m0, m1, m2⟩, ml⟩ := hnb.out V6 (GV.out.trans G5.out)
          have SS := Lib.hid (SO.out V6 _ _ kl ml)
          clear h5 hdt g5 kl ml
          go_wp2_with fail
          refine SS.out.mono ?_; rintro e u6 ⟨rfl, g6⟩
          have G6 := Lib.hid (((GW.out.trans GX.out).trans (GV.out.trans G5.out)).trans g6)
          clear g6 k0 k1' k2' m0 m1 m2
          go_wp2_with fail
          refine (awake19_c _).mono ?_; rintro e ua ⟨rfl, ga⟩
          go_wp2_with fail
          go_ret
          exact ⟨rfl, G6.out.trans ga⟩

set_option maxRecDepth 100000 in
theorem lifted (os : Os) (started : os.Started) (H : Type) (enc : TypeId × Value → H) :
    ReturnsInHanded {} Try.checked os 4 .any (Rows.manifestBackSpec.pre6 enc Try.prog Try.f4 Rows.manifestBackRow.domain false) (Rows.manifestBackSpec.post enc Try.prog Try.f4 false true false false) := by
  refine returnsInHanded_of_change (C := Try.checked) own started (by kernel_rfl) Try.func4
    (ChangeSpec.witness6 (enc := enc) (C := Try.checked) false ⟨#[], #[.agg #[.int .i64 0, .int .i64 0, .slice none 0 0], .int .u16 0, .int .u32 0, .agg #[.string ByteArray.empty, .int .i64 0, .int .i64 0, .int .u32 0]], []⟩ 8 (by kernel_rfl) (by kernel_rfl) (by kernel_rfl) (by kernel_rfl)) ?_
  intro W base args ds gs before hval0 hW hcnd _
  have hval : ∀ (j : Nat) t v, Try.f4.params[j]? = some t → args[j]? = some v → Value.okWide Try.prog W .any base t v := hval0
  have hW' := hW
  obtain ⟨p, q, hA0, hV, rfl, hfz, hnd⟩ := hW
  have hA : DataW.TrodAll enc Try.prog W 0 (fun _ => true) true Try.f4.params.toList args.toList ds p := hA0
  rw [Try.params4] at hA hval
  obtain ⟨v0, vs0, d0, ds0, p0, q0, hargs, rfl, rfl, h0, r0⟩ := trodAll_cons hA
  obtain ⟨v1, vs1, d1, ds1, p1, q1, rfl, rfl, rfl, h1, r1⟩ := trodAll_cons r0
  obtain ⟨v2, vs2, d2, ds2, p2, q2, rfl, rfl, rfl, h2, r2⟩ := trodAll_cons r1
  obtain ⟨v3, vs3, d3, ds3, p3, q3, rfl, rfl, rfl, h3, r3⟩ := trodAll_cons r2
  obtain ⟨rfl, rfl, rfl⟩ := trodAll_nil r3
  obtain rfl : args = #[v0, v1, v2, v3] := by cases args; simp_all
  obtain ⟨rfl, rfl⟩ := trodVars_none hV
  have k0 := h0
  have lt0 : ∀ x ∈ p0, x.block < W.heap.size := by obtain ⟨m, hm⟩ := k0; exact DataW.trod_lt m _ _ _ hm
  have w0 : RdAgg Try.prog W 24 v0 := rd_agg Try.underlying24 (by kernel_rfl) (by kernel_rfl) (hval 0 24 v0 rfl rfl) h0
  have k1 := h1
  have lt1 : ∀ x ∈ p1, x.block < W.heap.size := by obtain ⟨m, hm⟩ := k1; exact DataW.trod_lt m _ _ _ hm
  obtain ⟨n1, e1⟩ := okWide_int Try.underlying39 (hval 1 39 v1 rfl rfl)
  have w1 : Rd Try.prog W 39 v1 := by
    obtain ⟨fuel, hf⟩ := h1
    subst e1
    exact ⟨H, enc, fuel, _, by simpa [Value.cells] using hf⟩
  have k2 := h2
  have lt2 : ∀ x ∈ p2, x.block < W.heap.size := by obtain ⟨m, hm⟩ := k2; exact DataW.trod_lt m _ _ _ hm
  obtain ⟨n2, e2⟩ := okWide_int Try.underlying25 (hval 2 25 v2 rfl rfl)
  have w2 : Rd Try.prog W 25 v2 := by
    obtain ⟨fuel, hf⟩ := h2
    subst e2
    exact ⟨H, enc, fuel, _, by simpa [Value.cells] using hf⟩
  have k3 := h3
  have lt3 : ∀ x ∈ p3, x.block < W.heap.size := by obtain ⟨m, hm⟩ := k3; exact DataW.trod_lt m _ _ _ hm
  have w3 : RdAgg Try.prog W 27 v3 := rd_agg Try.underlying27 (by kernel_rfl) (by kernel_rfl) (hval 3 27 v3 rfl rfl) h3
  clear hA0 hval0
  refine (walk v0 v1 v2 v3 W w0 w1 w2 w3).mono fun e W' ⟨he, bel⟩ => ?_
  subst he
  exact ⟨_, rfl, _, _, _, [], _, [], hW', trodAll_mk1 (shut_bool Try.underlying4 _), (trodAll_cons_mk (Below.trod laidOut (by kernel_rfl) (of_decide_eq_true (by kernel_rfl)) k0 bel lt0) (trodAll_cons_mk (Below.trod laidOut (by kernel_rfl) (of_decide_eq_true (by kernel_rfl)) k1 bel lt1) (trodAll_cons_mk (Below.trod laidOut (by kernel_rfl) (of_decide_eq_true (by kernel_rfl)) k2 bel lt2) (trodAll_cons_mk (Below.trod laidOut (by kernel_rfl) (of_decide_eq_true (by kernel_rfl)) k3 bel lt3) trodAll_mk0)))), rfl, bel.frame _, fun h => by cases h⟩

theorem over : Rows.manifestBackRow.holds Try.pinned (OpenSpec.ofChange Rows.manifestBackSpec) :=
  OpenClaim.holds_of_wide 4 Try.f4 rfl rfl rfl rfl rfl rfl rfl ⟨rfl, rfl, rfl, rfl, rfl⟩ rfl rfl rfl rfl rfl (by kernel_rfl) Try.func4 (by kernel_rfl)
    (of_decide_eq_true (by kernel_rfl)) (by unfold Func.isWrapper; first | (rw [if_pos (by decide +kernel)]; kernel_rfl) | (rw [if_neg (by decide +kernel)]; exact ⟨rfl, rfl⟩))
    (fun os started H enc _ => lifted os started H enc)

theorem proved : Rows.ManifestBackSaid := over
#print axioms proved
end Go.Proofs.Ytgobdapngbpoeaa.manifestBack
