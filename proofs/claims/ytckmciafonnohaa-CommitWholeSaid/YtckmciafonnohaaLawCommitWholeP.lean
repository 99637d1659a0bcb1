/- Rows.CommitWholeSaid holds: for every input the law returns true and leaves its arguments as they were. Conditions: none beside the row's own. -/
import Derived.Test.YtckmciafonnohaaRows
import Derived.WalkKit
import Derived.ProofKit
import Derived.OpenShut
import Derived.ShutString
import Derived.ChangeOld
import Derived.Below
import Derived.Test.YtckmciafonnohaaP00
import Derived.Test.YtckmciafonnohaaP43
import Derived.Test.YtckmciafonnohaaP23
namespace Go.Proofs.Ytckmciafonnohaa.commitWhole
open Go.ChangeShapes Go.WideShapes Go.ChangeAt Go.RowKit
open Go.ChangeMaps (open_string shut_string)
open FsPlain CrcPlain OctPlain MnPlain CmPlain
set_option linter.unusedVariables false
set_option linter.unusedSimpArgs false

theorem own : ownKnob Try.prog.godebug = none := by kernel_rfl
theorem laidOut : laidOutB Try.prog = true := by kernel_rfl


set_option maxRecDepth 100000 in
set_option maxHeartbeats 8000000 in
theorem walk (v0 : Value) (w : World) (w0 : Rd Try.prog w 22 v0) :
    Calls Try.prog 3 #[v0] w fun e w' => e = .returned (.bool true) ∧ Gr w w' := by
  obtain ⟨l, hl, hlm, hlK⟩ := liesTy_in Try.underlying22 w0
  obtain ⟨a, c, rfl, _⟩ := id hl
  have F := few20_c (n := l.length) w hl hlm hlK
  clear w0
  by_cases hf : fewTy l = true
  · rw [hf] at F
    obtain ⟨h8, hall⟩ := few_ty hf
    have HL := Lib.hid (fun u (g : Gr w u) => hl.gr g)
    have HK := Lib.hid hlK
    have HA := Lib.hid hall
    have F := Lib.hid F
    have n8 : (l.length : Int) ≤ 8 := by omega
    clear hl hlm hlK hf hall
    go_enter Try.func3, Try.ntmps3
    go_wp2_with fail
    refine F.out.mono ?_; rintro e u1 ⟨rfl, g1⟩
    have NW := Lib.hid (pd_new 1048576 (by decide) (by decide) u1)
    have G1 := Lib.hid g1
    clear g1 F
    go_wp2_with fail
    refine NW.out.mono ?_; rintro e u2 ⟨p, rfl, d2⟩
    have D0 := Lib.hid (show Pd20 p (fresh 1048576) [Blk u2.heap.size #[.int .i64 0, .int .i64 0, .slice none 0 0] 31, FlA (.slice none 0 0) []] w (u2.alloc (.cells #[.int .i64 0, .int .i64 0, .slice none 0 0] 31)) from ((d2.base G1.out).nil).blk rfl)
    obtain ⟨W, hW⟩ : ∃ W, u2.heap.size = W := ⟨_, rfl⟩
    have HWW := Lib.hid hW
    rw [hW] at D0
    clear d2 NW G1 hW
    go_wp2_with fail
    rw [HWW.out]
    clear HWW
    go_loopw [6, 7] (fun v6 v7 wr => Wh20 p W l w v6 v7 wr) (fun _ v _ => l.length - (intOf v).toNat)
    case atStart => exact ⟨0, fresh 1048576, none, ⟨0, 0, []⟩, none, 0, Nat.zero_le _, rfl, rfl, D0.out, fresh_smalls _, by decide, rfl, .inl ⟨rfl, rfl⟩, by unfold maxLen; simp⟩
    case round =>
      obtain ⟨i, s, o1, m, ma, mc, hi, rfl, rfl, dd, sm, sc, hk, hw, hml⟩ := hrel
      have DD := Lib.hid dd
      have SM := Lib.hid sm
      have SC := Lib.hid sc
      have KW := Lib.hid (And.intro hk hw)
      obtain ⟨sb, hsb⟩ : ∃ b, o1.isSome = b := ⟨_, rfl⟩
      have HSB := Lib.hid hsb
      have HML := Lib.hid hml
      rw [hsb]
      clear dd sm sc hk hw D0 hsb hml
      by_cases hlt : i < l.length
      · obtain ⟨_, hc, b, o, rfl, hb, fa, fc, ka, kc, k0, k1, k2, k3, k4, k5, k6⟩ := ty_get (HL.out w (Gr.refl w)) hlt
        have hkx := HK.out _ (List.getElem_mem hlt)
        have hk10 := (HA.out _ (List.getElem_mem hlt)).2
        obtain ⟨x, hx⟩ : ∃ x, l[i] = x := ⟨_, rfl⟩
        rw [hx] at k0 k1 k2 k3 k4 k5 k6 hkx hk10
        have q1 : (i : Int) < (l.length : Int) := by omega
        have ic : (i : Int) ≤ 8 := by omega
        have KC := Lib.hid (fun u (g : Gr w u) => (⟨(Below.cell g (p := ⟨b, _, none⟩) hb).trans k0, (Below.cell g (p := ⟨b, _, none⟩) hb).trans k1, (Below.cell g (p := ⟨b, _, none⟩) hb).trans k2, (Below.cell g (p := ⟨b, _, none⟩) hb).trans k3, (Below.cell g (p := ⟨b, _, none⟩) hb).trans k4⟩ : u.cell? ⟨b, o + i * 5, none⟩ = some (.int .i64 x.m.stage) ∧ u.cell? ⟨b, o + i * 5 + 1, none⟩ = some (.int .i64 x.m.pass) ∧ u.cell? ⟨b, o + i * 5 + 2, none⟩ = some (.slice fa x.m.files.length fc) ∧ u.cell? ⟨b, o + i * 5 + 3, none⟩ = some (.int .i64 x.fuse) ∧ u.cell? ⟨b, o + i * 5 + 4, none⟩ = some (.slice ka x.keep.length kc)))
        have KL := Lib.hid (fun u (g : Gr w u) => k5.gr g)
        have KR := Lib.hid k6
        have HX := Lib.hid hkx
        have K10 := Lib.hid (show x.keep.length ≤ 1000000 by omega)
        have BC := Lib.hid (show (armed s x.fuse).calls ≤ 1000000000 ∧ (riseR (stepA s x) x.keep).calls ≤ 1000000000 ∧ (loadT (riseR (stepA s x) x.keep)).calls ≤ 3 + 10 * ((i : Int) + 1) by
          have a0 : (armed s x.fuse).calls = s.calls := rfl
          have := SC.out
          have := (step_calls s x).1
          have := calls_rise (stepA s x) x.keep
          have := calls_load (riseR (stepA s x) x.keep)
          refine ⟨?_, ?_, ?_⟩ <;> omega)
        have SMR := Lib.hid (smalls_rise x.keep (step_smalls x SM.out).1)
        clear k0 k1 k2 k3 k4 k5 k6 hkx hk10 hx hi ic
        obtain ⟨k0, k1, k2, k3, k4⟩ := KC.out wr DD.out.gr
        have AR := Lib.hid (pd_arm DD.out x.fuse HX.out.2.1)
        clear k0 k1 k2 k4 DD
        go_wp2_with fail
        refine AR.out.mono ?_; rintro e u11 ⟨rfl, d11⟩
        have SV := Lib.hid (pd_save (m := x.m) d11 BC.out.1 (KL.out _ d11.gr) HX.out.1.1 HX.out.1.2.1)
        clear k3 AR
        obtain ⟨k0, k1, k2, k3, k4⟩ := KC.out u11 d11.gr
        clear k3 k4 d11
        go_wp2_with fail
        refine SV.out.mono ?_; rintro e u12 ⟨rfl, d12⟩
        obtain ⟨fv, hfv⟩ : ∃ f, (saveR (armed s x.fuse) x.m).2 = f := ⟨_, rfl⟩
        have HF := Lib.hid hfv
        rw [hfv]
        have d12 : Pd20 p (stepA s x) _ w u12 := d12
        have RS := Lib.hid (pd_rise (kc := kc) d12 KR.out HX.out.2.2.2 K10.out)
        clear k0 k1 k2 SV hfv
        obtain ⟨k0, k1, k2, k3, k4⟩ := KC.out u12 d12.gr
        clear k0 k1 k2 k3 d12
        go_wp2_with fail
        refine RS.out.mono ?_; rintro e u13 ⟨rfl, d13⟩
        have LD := Lib.hid (pd_load d13 BC.out.2.1 (load_small SMR.out))
        clear k4 RS d13
        go_wp2_with fail
        refine LD.out.mono ?_; rintro e u14 ⟨m', a', c', b', code, rfl, hml', hld, d14⟩
        obtain ⟨hcode, HO, HC⟩ := wh_round KW.out.1 KW.out.2 HX.out.1.2.1 hld
        subst hcode
        rw [HF.out, HSB.out] at HC
        obtain ⟨V, hV⟩ : ∃ V, u14.alloc (.cells #[.int .i64 m'.stage, .int .i64 m'.pass, .slice a' m'.files.length c'] 31) = V := ⟨_, rfl⟩
        have DV := Lib.hid (show Pd20 p (loadT (riseR (stepA s x) x.keep)) [Blk u14.heap.size #[.int .i64 m'.stage, .int .i64 m'.pass, .slice a' m'.files.length c'] 31, Blk W #[.int .i64 m.stage, .int .i64 m.pass, .slice ma m.files.length mc] 31, FlA (.slice ma m.files.length mc) m.files, FlA (.slice a' m'.files.length c') m'.files] w V from d14.blk hV.symm)
        have HO := Lib.hid HO
        have HC := Lib.hid HC
        have HML2 := Lib.hid hml'
        have VC := Lib.hid (fun u (D : Pd20 p (loadT (riseR (stepA s x) x.keep)) [Blk u14.heap.size #[.int .i64 m'.stage, .int .i64 m'.pass, .slice a' m'.files.length c'] 31, Blk W #[.int .i64 m.stage, .int .i64 m.pass, .slice ma m.files.length mc] 31, FlA (.slice ma m.files.length mc) m.files, FlA (.slice a' m'.files.length c') m'.files] w u) => (⟨(mn_cells (D.at 0 rfl)).1, mn_cells (D.at 1 rfl), D.fl 2 rfl, D.fl 3 rfl⟩ : (u.cell? ⟨u14.heap.size, 0, none⟩ = some (.int .i64 m'.stage) ∧ u.cell? ⟨u14.heap.size, 1, none⟩ = some (.int .i64 m'.pass) ∧ u.cell? ⟨u14.heap.size, 2, none⟩ = some (.slice a' m'.files.length c')) ∧ ((u.cell? ⟨W, 0, none⟩ = some (.int .i64 m.stage) ∧ u.cell? ⟨W, 1, none⟩ = some (.int .i64 m.pass) ∧ u.cell? ⟨W, 2, none⟩ = some (.slice ma m.files.length mc)) ∧ u.frozen? ⟨W, 0, none⟩ = false ∧ u.frozen? ⟨W, 1, none⟩ = false ∧ u.frozen? ⟨W, 2, none⟩ = false) ∧ LiesFl u (.slice ma m.files.length mc) m.files ∧ LiesFl u (.slice a' m'.files.length c') m'.files))
        clear d14 LD hld hml'
        have SM1 := Lib.hid (rsame_two m' m V (VC.out V DV.out).2.2.2 (VC.out V DV.out).2.2.1 HML2.out HML.out)
        go_upto_region 16 with (fail)
        clear hV
        go_cut [12] from 25 to 109 (fun v wx => v = .bool (oldW b' sb m' m) ∧ Gr V wx)
        case first =>
          obtain ⟨⟨xn0, xn1, xn2⟩, ⟨⟨xw0, xw1, xw2⟩, _⟩, _, _⟩ := VC.out V DV.out
          obtain ⟨r, hr⟩ : ∃ r, mnEq m' m = r := ⟨_, rfl⟩
          have hold : oldW b' sb m' m = ((b' == sb) && r) := by unfold oldW; rw [hr]
          rw [hr] at SM1
          have hold := Lib.hid hold
          clear hr VC DV HC HO SMR BC
          cases b' <;> cases sb
          · go_wp2_with fail
            refine SM1.out.mono ?_; rintro e u ⟨rfl, g⟩
            have g := Lib.hid g
            go_wp2_with fail
            go_meet
            exact ⟨by rw [hold.out]; rfl, g.out⟩
          · go_wp2_with fail
            go_meet
            exact ⟨by rw [hold.out]; rfl, Gr.refl _⟩
          · go_wp2_with fail
            go_meet
            exact ⟨by rw [hold.out]; rfl, Gr.refl _⟩
          · go_wp2_with fail
            refine SM1.out.mono ?_; rintro e u ⟨rfl, g⟩
            have g := Lib.hid g
            go_wp2_with fail
            go_meet
            exact ⟨by rw [hold.out]; rfl, g.out⟩
        case rest =>
        rename World => w16
        obtain ⟨rfl, g16⟩ := hcut
        obtain ⟨ob, hob⟩ : ∃ r, oldW b' sb m' m = r := ⟨_, rfl⟩
        rw [hob]
        have HOB := Lib.hid hob
        have D16 := Lib.hid (DV.out.on g16)
        clear hob g16 DV SM1
        go_upto_region 17 with (fail)
        go_cut [13] from 25 to 109 (fun v wx => v = .bool (freshW b' x.m m') ∧ Gr w16 wx)
        case first =>
          have SH := Lib.hid (fun u (g : Gr w16 u) => by
            obtain ⟨y0, y1, y2, _, _⟩ := KC.out u (D16.out.gr.trans g)
            obtain ⟨⟨xn0, xn1, xn2⟩, _⟩ := VC.out u (D16.out.on g)
            exact (⟨g, y0, y1, y2, xn0, xn1, xn2⟩ : Gr w16 u ∧ u.cell? ⟨b, o + i * 5, none⟩ = some (.int .i64 x.m.stage) ∧ u.cell? ⟨b, o + i * 5 + 1, none⟩ = some (.int .i64 x.m.pass) ∧ u.cell? ⟨b, o + i * 5 + 2, none⟩ = some (.slice fa x.m.files.length fc) ∧ u.cell? ⟨u14.heap.size, 0, none⟩ = some (.int .i64 m'.stage) ∧ u.cell? ⟨u14.heap.size, 1, none⟩ = some (.int .i64 m'.pass) ∧ u.cell? ⟨u14.heap.size, 2, none⟩ = some (.slice a' m'.files.length c')))
          have CR := Lib.hid (fun u (g : Gr w16 u) => (rmright_c x.m.stage x.m.pass fa x.m.files.length fc x.m.files u (KL.out u (D16.out.gr.trans g)) HX.out.1.1 HX.out.1.2.1 HX.out.1.2.2.1 HX.out.1.2.2.2).mono fun e w' (h : e = .returned (.bool (mnB x.m)) ∧ Gr u w') => (⟨h.1, g.trans h.2⟩ : e = .returned (.bool (mnB x.m)) ∧ Gr w16 w'))
          have CS := Lib.hid (fun u (g : Gr w16 u) => (rsame_two m' x.m u (VC.out u (D16.out.on g)).2.2.2 (KL.out u (D16.out.gr.trans g)) HML2.out HX.out.1.1).mono fun e w' h => (⟨h.1, g.trans h.2⟩ : e = .returned (.bool (mnEq m' x.m)) ∧ Gr w16 w'))
          obtain ⟨mb, hmb⟩ : ∃ r, mnB x.m = r := ⟨_, rfl⟩
          obtain ⟨r, hr⟩ : ∃ r, mnEq m' x.m = r := ⟨_, rfl⟩
          have hfr := Lib.hid (show freshW b' x.m m' = ((b' && mb) && r) by unfold freshW; rw [hmb, hr])
          rw [hmb] at CR
          rw [hr] at CS
          have gd : Gr w16 w16.drew := Below.drew (Gr.refl _)
          clear hmb hr VC HC HO SMR BC HOB D16 q1
          cases b' <;> cases mb
          all_goals
            refine text_region (S := fun u => Gr w16 u ∧ u.cell? ⟨b, o + i * 5, none⟩ = some (.int .i64 x.m.stage) ∧ u.cell? ⟨b, o + i * 5 + 1, none⟩ = some (.int .i64 x.m.pass) ∧ u.cell? ⟨b, o + i * 5 + 2, none⟩ = some (.slice fa x.m.files.length fc) ∧ u.cell? ⟨u14.heap.size, 0, none⟩ = some (.int .i64 m'.stage) ∧ u.cell? ⟨u14.heap.size, 1, none⟩ = some (.int .i64 m'.pass) ∧ u.cell? ⟨u14.heap.size, 2, none⟩ = some (.slice a' m'.files.length c')) (by kernel_rfl) (by kernel_rfl) (by kernel_rfl) (SH.out _ gd) ?_
            repeat (first
              | (refine text_skip (by rfl) ?_; (try simp only [Act.put, List.setIfInBounds_toArray, List.set_cons_zero, List.set_cons_succ]))
              | (refine text_val (v := ?_) (by rfl) ?_ ?_; rotate_left 1; (· intro u hu; (try dsimp only at hu); go_simp <;> with_reducible rfl); (try simp only [Act.put, List.setIfInBounds_toArray, List.set_cons_zero, List.set_cons_succ]))
              | (refine text_call (fun u hu => ((CR.out u hu.1).mono (fun e w' h => ⟨h.1, SH.out w' h.2⟩))) (by rfl) ?_ ?_; (· intro u; go_simp); (try simp only [Act.put, List.setIfInBounds_toArray, List.set_cons_zero, List.set_cons_succ]))
              | (refine text_call (fun u hu => ((CS.out u hu.1).mono (fun e w' h => ⟨h.1, SH.out w' h.2⟩))) (by rfl) ?_ ?_; (· intro u; go_simp); (try simp only [Act.put, List.setIfInBounds_toArray, List.set_cons_zero, List.set_cons_succ])))
            refine text_done (fun u hu => ?_)
            have gu := Lib.hid hu.1
            clear hu
            go_wp2_with fail
            go_meet
            exact ⟨by rw [hfr.out]; rfl, gu.out⟩
        case rest =>
        rename World => w17
        obtain ⟨rfl, g17⟩ := hcut
        obtain ⟨fb, hfb⟩ : ∃ r, freshW b' x.m m' = r := ⟨_, rfl⟩
        rw [hfb]
        have HFB := Lib.hid hfb
        have D17 := Lib.hid (D16.out.on g17)
        obtain ⟨⟨xn0, xn1, xn2⟩, ⟨⟨xw0, xw1, xw2⟩, fw0, fw1, fw2⟩, _, _⟩ := VC.out w17 D17.out
        have FIN := Lib.hid (show Pd20 p (loadT (riseR (stepA s x) x.keep)) [Blk u14.heap.size #[.int .i64 m'.stage, .int .i64 m'.pass, .slice a' m'.files.length c'] 31, Blk W #[.int .i64 m'.stage, .int .i64 m'.pass, .slice a' m'.files.length c'] 31, FlA (.slice ma m.files.length mc) m.files, FlA (.slice a' m'.files.length c') m'.files] w (((w17.setCell ⟨W, 0, none⟩ (.int .i64 m'.stage)).setCell ⟨W, 1, none⟩ (.int .i64 m'.pass)).setCell ⟨W, 2, none⟩ (.slice a' m'.files.length c')) from D17.out.set3 1 rfl rfl _ _ _)
        have REL := Lib.hid (show Wh20 p W l w (.bool b') (.int .i64 ((i : Int) + 1)) (((w17.setCell ⟨W, 0, none⟩ (.int .i64 m'.stage)).setCell ⟨W, 1, none⟩ (.int .i64 m'.pass)).setCell ⟨W, 2, none⟩ (.slice a' m'.files.length c')) from by
          obtain ⟨o', hb', hw', hk'⟩ := HO.out
          refine ⟨i + 1, loadT (riseR (stepA s x) x.keep), o', m', a', c', by omega, by rw [Int.natCast_add]; rfl, by rw [hb'], ?_, smalls_load SMR.out, by have := BC.out.2.2; omega, hk', hw', HML2.out⟩
          exact Qs.sub FIN.out (.cons_cons _ (.cons _ (.cons_cons _ (.cons _ (.cons_cons _ .slnil))))))
        clear hfb g17 D16 VC HO SMR BC FIN
        rcases HC.out with ⟨e0, hb1, hm1, hmm⟩ | ⟨e0, hb1, hmm⟩
        · subst e0
          have hf1 : fb = true := by rw [← HFB.out, hb1, hmm]; unfold freshW; rw [hm1, mnEq_iff.2 rfl]; rfl
          subst hf1
          clear HC HFB HOB hb1 hm1 hmm HF
          cases ob
          all_goals
            go_wp2_with fail
            go_roundw
            case rel => exact REL.out
            case measure => simp [intOf]; omega
        · have ho1 : ob = true := by rw [← HOB.out, hb1, hmm]; unfold oldW; rw [mnEq_iff.2 rfl]; simp
          subst ho1
          have qf : (fv == 0) = false := by simpa using e0
          clear HC HFB HOB hb1 hmm HF e0
          by_cases hf1 : fv = 1
          · have qg : (fv == 1) = true := by simpa using hf1
            clear hf1
            go_wp2_with fail
            go_roundw
            case rel => exact REL.out
            case measure => simp [intOf]; omega
          · have qg : (fv == 1) = false := by simpa using hf1
            clear hf1
            go_wp2_with fail
            go_roundw
            case rel => exact REL.out
            case measure => simp [intOf]; omega
      · obtain rfl : i = l.length := by omega
        have AW := Lib.hid (awake20_c wr)
        have G0 := Lib.hid DD.out.gr
        clear hlt hi DD
        go_wp2_with fail
        refine AW.out.mono ?_; rintro e u ⟨rfl, g⟩
        have G := Lib.hid (G0.out.trans g)
        clear g
        go_wp2_with fail
        go_ret
        exact ⟨rfl, G.out⟩
  · have hf : fewTy l = false := by simpa using hf
    rw [hf] at F
    have AW := Lib.hid (fun u => awake20_c u)
    have F := Lib.hid F
    clear hl hlm hlK hf
    go_enter Try.func3, Try.ntmps3
    go_wp2_with fail
    refine F.out.mono ?_; rintro e u1 ⟨rfl, g1⟩
    have G1 := Lib.hid g1
    clear g1
    go_wp2_with fail
    refine (AW.out u1).mono ?_; rintro e u ⟨rfl, g⟩
    have G := Lib.hid (G1.out.trans g)
    clear g
    go_wp2_with fail
    go_ret
    exact ⟨rfl, G.out⟩

set_option maxRecDepth 100000 in
theorem lifted (os : Os) (started : os.Started) (H : Type) (enc : TypeId × Value → H) :
    ReturnsInHanded {} Try.checked os 3 .any (Rows.commitWholeSpec.pre6 enc Try.prog Try.f3 Rows.commitWholeRow.domain false) (Rows.commitWholeSpec.post enc Try.prog Try.f3 false true false false) := by
  refine returnsInHanded_of_change (C := Try.checked) own started (by kernel_rfl) Try.func3
    (ChangeSpec.witness6 (enc := enc) (C := Try.checked) false ⟨#[], #[.slice none 0 0], []⟩ 8 (by kernel_rfl) (by kernel_rfl) (by kernel_rfl) (by kernel_rfl)) ?_
  intro W base args ds gs before hval0 hW hcnd _
  have hval : ∀ (j : Nat) t v, Try.f3.params[j]? = some t → args[j]? = some v → Value.okWide Try.prog W .any base t v := hval0
  have hW' := hW
  obtain ⟨p, q, hA0, hV, rfl, hfz, hnd⟩ := hW
  have hA : DataW.TrodAll enc Try.prog W 0 (fun _ => true) true Try.f3.params.toList args.toList ds p := hA0
  rw [Try.params3] at hA hval
  obtain ⟨v0, vs0, d0, ds0, p0, q0, hargs, rfl, rfl, h0, r0⟩ := trodAll_cons hA
  obtain ⟨rfl, rfl, rfl⟩ := trodAll_nil r0
  obtain rfl : args = #[v0] := by cases args; simp_all
  obtain ⟨rfl, rfl⟩ := trodVars_none hV
  have k0 := h0
  have lt0 : ∀ x ∈ p0, x.block < W.heap.size := by obtain ⟨m, hm⟩ := k0; exact DataW.trod_lt m _ _ _ hm
  obtain ⟨a0, l0, c0, e0⟩ := okWide_slice Try.underlying22 (hval 0 22 v0 rfl rfl)
  have w0 : Rd Try.prog W 22 v0 := by
    obtain ⟨fuel, hf⟩ := h0
    subst e0
    exact ⟨H, enc, fuel, _, by simpa [Value.cells] using hf⟩
  clear hA0 hval0
  refine (walk v0 W w0).mono fun e W' ⟨he, bel⟩ => ?_
  subst he
  exact ⟨_, rfl, _, _, _, [], _, [], hW', trodAll_mk1 (shut_bool Try.underlying4 _), (trodAll_cons_mk (Below.trod laidOut (by kernel_rfl) (of_decide_eq_true (by kernel_rfl)) k0 bel lt0) trodAll_mk0), rfl, bel.frame _, fun h => by cases h⟩

theorem over : Rows.commitWholeRow.holds Try.pinned (OpenSpec.ofChange Rows.commitWholeSpec) :=
  OpenClaim.holds_of_wide 3 Try.f3 rfl rfl rfl rfl rfl rfl rfl ⟨rfl, rfl, rfl, rfl, rfl⟩ rfl rfl rfl rfl rfl (by kernel_rfl) Try.func3 (by kernel_rfl)
    (of_decide_eq_true (by kernel_rfl)) (by unfold Func.isWrapper; first | (rw [if_pos (by decide +kernel)]; kernel_rfl) | (rw [if_neg (by decide +kernel)]; exact ⟨rfl, rfl⟩))
    (fun os started H enc _ => lifted os started H enc)

theorem proved : Rows.CommitWholeSaid := over
#print axioms proved
end Go.Proofs.Ytckmciafonnohaa.commitWhole
