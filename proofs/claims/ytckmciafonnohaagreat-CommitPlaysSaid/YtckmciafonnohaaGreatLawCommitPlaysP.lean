/- Rows.CommitPlaysSaid holds: for every input the law returns true and leaves its arguments as they were. Conditions: none beside the row's own. -/
import Derived.Test.YtckmciafonnohaaGreatRows
import Derived.WalkKit
import Derived.ProofKit
import Derived.OpenShut
import Derived.ShutString
import Derived.ChangeOld
import Derived.Below
import Derived.Test.YtckmciafonnohaaGreatP00
import Derived.Test.YtckmciafonnohaaGreatP41
namespace Go.Proofs.YtckmciafonnohaaGreat.commitPlays
open Go.ChangeShapes Go.WideShapes Go.ChangeAt Go.RowKit
open Go.ChangeMaps (open_string shut_string)
open FsPlain CrcPlain OctPlain MnPlain CmPlain
set_option linter.unusedVariables false
set_option linter.unusedSimpArgs false

theorem own : ownKnob Tryz.prog.godebug = none := by kernel_rfl
theorem laidOut : laidOutB Tryz.prog = true := by kernel_rfl


set_option maxRecDepth 100000 in
set_option maxHeartbeats 8000000 in
theorem walk (v0 v1 v2 : Value) (w : World) (w0 : Rd Tryz.prog w 22 v0) (w1 : Rd Tryz.prog w 9 v1) (w2 : Rd Tryz.prog w 4 v2) :
    Calls Tryz.prog 3 #[v0, v1, v2] w fun e w' => e = .returned (.bool true) ∧ Gr w w' := by
  obtain ⟨l, hl, hlm, hlK⟩ := liesTy_in Tryz.underlying22 w0
  obtain ⟨a, c, rfl, _⟩ := id hl
  obtain ⟨s, rfl, hsm⟩ := rd_string Tryz.underlying9 w1
  obtain ⟨there, rfl⟩ := rd_bool Tryz.underlying4 w2
  have F := few20_c (n := l.length) w hl hlm hlK
  clear w0 w1 w2
  by_cases hok : fewTy l = true ∧ ¬ (100 : Int) < (s.size : Int)
  · obtain ⟨hf, hs⟩ := hok
    rw [hf] at F
    obtain ⟨h8, hall⟩ := few_ty hf
    have hs1 : s.size ≤ 100 := by omega
    have sx : s.data.toList.length ≤ 100 := hs1
    have HL := Lib.hid (fun u (g : Gr w u) => hl.gr g)
    have HK := Lib.hid hlK
    have HA := Lib.hid hall
    have F := Lib.hid F
    have SX := Lib.hid (laid_smalls sx)
    have LC := Lib.hid (laid_calls s.data.toList)
    have n8 : (l.length : Int) ≤ 8 := by omega
    have HS1 := Lib.hid hs1
    have NB : rightB nameS.data.toList = true := by kernel_rfl
    have WB : rightB wayS.data.toList = true := by kernel_rfl
    have C1P := Lib.hid (fun p d u (h : Pl20 p d (fresh 1048576) (fresh 1048576) [] w u) => tw_create_p h nameS (by decide) NB (by decide))
    have C1D := Lib.hid (fun p d u (h : Pl20 p d laid1 (fresh 1048576) [] w u) => tw_create_d h nameS (by decide) NB (by decide))
    have A1P := Lib.hid (fun p d u (h : Pl20 p d laid1 laid1 [] w u) => tw_append_p h nameS s (by decide) NB (by have := LC.out.1; omega) (by omega))
    have A1D := Lib.hid (fun p d u (h : Pl20 p d (laid2 s.data.toList) laid1 [] w u) => tw_append_d h nameS s (by decide) NB (by have := LC.out.1; omega) (by omega))
    have C2P := Lib.hid (fun p d u (h : Pl20 p d (laid2 s.data.toList) (laid2 s.data.toList) [] w u) => tw_create_p h wayS (by decide) WB (by have := LC.out.2.1; omega))
    have C2D := Lib.hid (fun p d u (h : Pl20 p d (laid3 s.data.toList) (laid2 s.data.toList) [] w u) => tw_create_d h wayS (by decide) WB (by have := LC.out.2.1; omega))
    have SM0 := Lib.hid (show Smalls (fresh 1048576) from ⟨sm_none rfl, sm_none rfl⟩)
    clear hl hlm hlK hf hall hs1 sx NB WB
    go_enter Tryz.func3, Tryz.ntmps3
    go_wp2_with fail
    refine F.out.mono ?_; rintro e u1 ⟨rfl, g1⟩
    have G1 := Lib.hid g1
    clear g1 F
    go_wp2_with fail
    refine (new_c 1048576 (by decide) (by decide) u1).mono ?_; rintro e u2 ⟨p, B, rfl, hd, hg, hb⟩
    have DN := Lib.hid (tw_new w u2 (G1.out.trans hg) (by decide) (by decide) (show DiskA p (fresh 1048576) u2 B from hd) ⟨Only.ofGr (G1.out.trans hg), fun b h => .inr (Nat.le_trans G1.out.size (hb b h))⟩)
    clear hd hg hb
    go_wp2_with fail
    refine DN.out.mono ?_; rintro e u3 ⟨d, rfl, d3⟩
    have D3 := Lib.hid d3
    clear d3 DN
    have K9 := Lib.hid (show wayS = wayS ∧ nameS = nameS from ⟨rfl, rfl⟩)
    cases there
    · have S0 := Lib.hid (show ∃ s0 : St, Pl20 p d s0 s0 [] w u3 ∧ Smalls s0 ∧ s0.calls ≤ 3 from ⟨_, D3.out, SM0.out, by decide⟩)
      clear D3 C1P C1D A1P A1D C2P C2D
      go_wp2_with fail
      go_loopw [10] (fun v wr => Rel20 p d l w v wr) (fun v _ => l.length - (intOf v).toNat)
      case atStart =>
        obtain ⟨s0, dd, sm, sc⟩ := S0.out
        exact ⟨0, s0, Nat.zero_le _, rfl, dd, sm, by omega⟩
      case round =>
        obtain ⟨i, s0, hi, rfl, dd, sm, sc⟩ := hrel
        have D0 := Lib.hid dd
        have SM := Lib.hid sm
        have SC := Lib.hid sc
        clear dd sm sc
        by_cases hlt : i < l.length
        · obtain ⟨_, hc, b, o, rfl, hb, fa, fc, ka, kc, k0, k1, k2, k3, k4, k5, k6⟩ := ty_get (HL.out w (Gr.refl w)) hlt
          have hkx := HK.out _ (List.getElem_mem hlt)
          obtain ⟨x, hx⟩ : ∃ x, l[i] = x := ⟨_, rfl⟩
          have hk10 := (HA.out _ (List.getElem_mem hlt)).2
          rw [hx] at k0 k1 k2 k3 k4 k5 k6 hkx hk10
          have q1 : (i : Int) < (l.length : Int) := by omega
          have KC := Lib.hid (fun u (g : Gr w u) => (⟨(Below.cell g (p := ⟨b, _, none⟩) hb).trans k0, (Below.cell g (p := ⟨b, _, none⟩) hb).trans k1, (Below.cell g (p := ⟨b, _, none⟩) hb).trans k2, (Below.cell g (p := ⟨b, _, none⟩) hb).trans k3, (Below.cell g (p := ⟨b, _, none⟩) hb).trans k4⟩ : u.cell? ⟨b, o + i * 5, none⟩ = some (.int .i64 x.m.stage) ∧ u.cell? ⟨b, o + i * 5 + 1, none⟩ = some (.int .i64 x.m.pass) ∧ u.cell? ⟨b, o + i * 5 + 2, none⟩ = some (.slice fa x.m.files.length fc) ∧ u.cell? ⟨b, o + i * 5 + 3, none⟩ = some (.int .i64 x.fuse) ∧ u.cell? ⟨b, o + i * 5 + 4, none⟩ = some (.slice ka x.keep.length kc)))
          have KL := Lib.hid (fun u (g : Gr w u) => k5.gr g)
          have KR := Lib.hid k6
          have HX := Lib.hid hkx
          have K10 := Lib.hid (show x.keep.length ≤ 1000000 by have := hk10; omega)
          clear hk10
          clear k0 k1 k2 k3 k4 k5 k6 hkx hx hlt hi
          obtain ⟨k0, k1, k2, k3, k4⟩ := KC.out wr D0.out.gr
          have AR := Lib.hid (tw_arm_p D0.out x.fuse HX.out.2.1)
          clear k0 k1 k2 k4 D0
          go_wp2_with fail
          refine AR.out.mono ?_; rintro e u11 ⟨rfl, d11⟩
          have AD := Lib.hid (tw_arm_d d11 x.fuse HX.out.2.1)
          clear k3 AR
          obtain ⟨k0, k1, k2, k3, k4⟩ := KC.out u11 d11.gr
          clear k0 k1 k2 k4 d11
          go_wp2_with fail
          refine AD.out.mono ?_; rintro e u12 ⟨rfl, d12⟩
          have D12 := Lib.hid d12
          clear d12 k3 AD
          have AD12 := Lib.hid D12.out
          go_wp2_with fail
          have D12 := Lib.hid (D12.out.on (show Gr u12 u12.drew from Below.drew (Gr.refl _)))
          obtain ⟨k0, k1, k2, k3, k4⟩ := KC.out _ D12.out.gr
          obtain ⟨kb0, kb1, kb2, _, _⟩ := KC.out u12 ((AD12.out).gr)
          clear k3 k4
          have sb := (step_calls s0 x)
          have ic : (i : Int) ≤ 8 := by omega
          have BC := Lib.hid (show (armed s0 x.fuse).calls ≤ 1000000000 ∧ (stepA s0 x).calls ≤ 1000000000 ∧ (loadT (stepA s0 x)).calls ≤ 1000000000 ∧ (stepB s0 x).calls ≤ 1000000000 by
            have a0 : (armed s0 x.fuse).calls = s0.calls := rfl
            have := SC.out
            obtain ⟨b1, b2, b3, _⟩ := sb
            refine ⟨?_, ?_, ?_, ?_⟩ <;> omega)
          have SP := Lib.hid (tw_save_p (m := x.m) D12.out BC.out.1 (KL.out w (Gr.refl w)) HX.out.1.1 HX.out.1.2.1)
          have SD := Lib.hid (fun u (D : Pl20 p d (stepA s0 x) (armed s0 x.fuse) [] w u) => tw_save_d (m := x.m) D BC.out.1 (KL.out w (Gr.refl w)) HX.out.1.1 HX.out.1.2.1 HX.out.1.2.2.1 HX.out.1.2.2.2)
          have CP := Lib.hid (fun u (D : Pl20 p d (stepA s0 x) (stepA s0 x) [] w u) => tw_calls_p D)
          clear sb ic
          refine wp_region_held_drew (S := fun w' => w'.cell? ⟨b, o + i * 5, none⟩ = some (.int .i64 x.m.stage) ∧ w'.cell? ⟨b, o + i * 5 + 1, none⟩ = some (.int .i64 x.m.pass) ∧ w'.cell? ⟨b, o + i * 5 + 2, none⟩ = some (.slice fa x.m.files.length fc)) (by kernel_rfl) ⟨k0, k1, k2⟩ (fun hHeld => ?_)
          refine wpAnyH_take (i := 0) (oi := ?_) (v := ?_) ?_ (by kernel_rfl) (by kernel_rfl) (by kernel_rfl) ?_ (Or.inl ⟨?_, ?_⟩) (by assumption) ?_
          rotate_left 2
          · simp only [List.getElem?_toArray, List.getElem?_cons_succ, List.getElem?_cons_zero]; rfl
          · exact fun _ _ _ h => h
          · rfl
          · intro w hSw; (try dsimp only at hSw); go_simp <;> with_reducible rfl
          (try simp only [Act.put, List.setIfInBounds_toArray, List.set_cons_zero, List.set_cons_succ])
          refine wpAnyH_take (i := 1) (oi := ?_) (v := ?_) ?_ (by kernel_rfl) (by kernel_rfl) (by kernel_rfl) ?_ (Or.inl ⟨?_, ?_⟩) (by assumption) ?_
          rotate_left 2
          · simp only [List.getElem?_toArray, List.getElem?_cons_succ, List.getElem?_cons_zero]; rfl
          · exact fun _ _ _ h => h
          · rfl
          · intro w hSw; (try dsimp only at hSw); go_simp <;> with_reducible rfl
          (try simp only [Act.put, List.setIfInBounds_toArray, List.set_cons_zero, List.set_cons_succ])
          refine wpAnyH_take (i := 2) (oi := ?_) (v := ?_) ?_ (by kernel_rfl) (by kernel_rfl) (by kernel_rfl) ?_ (Or.inl ⟨?_, ?_⟩) (by assumption) ?_
          rotate_left 2
          · simp only [List.getElem?_toArray, List.getElem?_cons_succ, List.getElem?_cons_zero]; rfl
          · exact fun _ _ _ h => h
          · rfl
          · intro w hSw; (try dsimp only at hSw); go_simp <;> with_reducible rfl
          (try simp only [Act.put, List.setIfInBounds_toArray, List.set_cons_zero, List.set_cons_succ])
          refine wpAnyH_take (i := 3) (oi := ?_) (v := ?_) ?_ (by kernel_rfl) (by kernel_rfl) (by kernel_rfl) ?_ (Or.inl ⟨?_, ?_⟩) (by assumption) ?_
          rotate_left 2
          · simp only [List.getElem?_toArray, List.getElem?_cons_succ, List.getElem?_cons_zero]; rfl
          · exact fun _ _ _ h => h
          · rfl
          · intro w hSw; (try dsimp only at hSw); go_simp <;> with_reducible rfl
          (try simp only [Act.put, List.setIfInBounds_toArray, List.set_cons_zero, List.set_cons_succ])
          refine wpAnyH_take (i := 4) (oi := ?_) (v := ?_) ?_ (by kernel_rfl) (by kernel_rfl) (by kernel_rfl) ?_ (Or.inl ⟨?_, ?_⟩) (by assumption) ?_
          rotate_left 2
          · simp only [List.getElem?_toArray, List.getElem?_cons_succ, List.getElem?_cons_zero]; rfl
          · exact fun _ _ _ h => h
          · rfl
          · intro w hSw; (try dsimp only at hSw); go_simp <;> with_reducible rfl
          (try simp only [Act.put, List.setIfInBounds_toArray, List.set_cons_zero, List.set_cons_succ])
          refine wpAnyH_take (i := 5) (oi := ?_) (v := ?_) ?_ (by kernel_rfl) (by kernel_rfl) (by kernel_rfl) ?_ (Or.inl ⟨?_, ?_⟩) (by assumption) ?_
          rotate_left 2
          · simp only [List.getElem?_toArray, List.getElem?_cons_succ, List.getElem?_cons_zero]; rfl
          · exact fun _ _ _ h => h
          · rfl
          · intro w hSw; (try dsimp only at hSw); go_simp <;> with_reducible rfl
          (try simp only [Act.put, List.setIfInBounds_toArray, List.set_cons_zero, List.set_cons_succ])
          refine wpAnyH_take (i := 7) (oi := ?_) (v := ?_) ?_ (by kernel_rfl) (by kernel_rfl) (by kernel_rfl) ?_ (Or.inl ⟨?_, ?_⟩) (by assumption) ?_
          rotate_left 2
          · simp only [List.getElem?_toArray, List.getElem?_cons_succ, List.getElem?_cons_zero]; rfl
          · exact fun _ _ _ h => h
          · rfl
          · intro w hSw; (try dsimp only at hSw); go_simp <;> with_reducible rfl
          (try simp only [Act.put, List.setIfInBounds_toArray, List.set_cons_zero, List.set_cons_succ])
          refine wpAnyH_take (i := 8) (oi := ?_) (v := ?_) ?_ (by kernel_rfl) (by kernel_rfl) (by kernel_rfl) ?_ (Or.inl ⟨?_, ?_⟩) (by assumption) ?_
          rotate_left 2
          · simp only [List.getElem?_toArray, List.getElem?_cons_succ, List.getElem?_cons_zero]; rfl
          · exact fun _ _ _ h => h
          · rfl
          · intro w hSw; (try dsimp only at hSw); go_simp <;> with_reducible rfl
          (try simp only [Act.put, List.setIfInBounds_toArray, List.set_cons_zero, List.set_cons_succ])
          refine wpAnyH_take (i := 9) (oi := ?_) (v := ?_) ?_ (by kernel_rfl) (by kernel_rfl) (by kernel_rfl) ?_ (Or.inl ⟨?_, ?_⟩) (by assumption) ?_
          rotate_left 2
          · simp only [List.getElem?_toArray, List.getElem?_cons_succ, List.getElem?_cons_zero]; rfl
          · exact fun _ _ _ h => h
          · rfl
          · intro w hSw; (try dsimp only at hSw); go_simp <;> with_reducible rfl
          (try simp only [Act.put, List.setIfInBounds_toArray, List.set_cons_zero, List.set_cons_succ])
          refine wpAnyH_take (i := 10) (oi := ?_) (v := ?_) ?_ (by kernel_rfl) (by kernel_rfl) (by kernel_rfl) ?_ (Or.inl ⟨?_, ?_⟩) (by assumption) ?_
          rotate_left 2
          · simp only [List.getElem?_toArray, List.getElem?_cons_succ, List.getElem?_cons_zero]; rfl
          · exact fun _ _ _ h => h
          · rfl
          · intro w hSw; (try dsimp only at hSw); go_simp <;> with_reducible rfl
          (try simp only [Act.put, List.setIfInBounds_toArray, List.set_cons_zero, List.set_cons_succ])
          refine wpAnyH_take (i := 11) (oi := ?_) (v := ?_) ?_ (by kernel_rfl) (by kernel_rfl) (by kernel_rfl) ?_ (Or.inl ⟨?_, ?_⟩) (by assumption) ?_
          rotate_left 2
          · simp only [List.getElem?_toArray, List.getElem?_cons_succ, List.getElem?_cons_zero]; rfl
          · exact fun _ _ _ h => h
          · rfl
          · intro w hSw; (try dsimp only at hSw); go_simp <;> with_reducible rfl
          (try simp only [Act.put, List.setIfInBounds_toArray, List.set_cons_zero, List.set_cons_succ])
          refine wpAnyH_take (i := 12) (oi := ?_) (v := ?_) ?_ (by kernel_rfl) (by kernel_rfl) (by kernel_rfl) ?_ (Or.inl ⟨?_, ?_⟩) (by assumption) ?_
          rotate_left 2
          · simp only [List.getElem?_toArray, List.getElem?_cons_succ, List.getElem?_cons_zero]; rfl
          · exact fun _ _ _ h => h
          · rfl
          · intro w hSw; (try dsimp only at hSw); go_simp <;> with_reducible rfl
          (try simp only [Act.put, List.setIfInBounds_toArray, List.set_cons_zero, List.set_cons_succ])
          refine wpAnyH_ready (rs := [6]) (by kernel_rfl) (by simp) ?_
          refine AllReadyH.cons (o := ?_) ?_ (fun K hK => ?_) AllReadyH.nil
          rotate_left 1
          · simp only [List.getElem?_toArray, List.getElem?_cons_succ, List.getElem?_cons_zero]; rfl
          go_simp
          refine (SP.out).mono ?_; rintro e t1 ⟨rfl, d13⟩
          have D13 := Lib.hid (show Pl20 p d (stepA s0 x) (armed s0 x.fuse) [] w t1 from d13)
          have q13 := KC.out t1 d13.gr
          clear d13
          go_wp2_with fail
          refine hK.out _ _ ?_ (fun hHeld => ?_)
          · exact ⟨q13.1, q13.2.1, q13.2.2.1⟩
          clear hK K
          (try simp only [Act.put, List.setIfInBounds_toArray, List.set_cons_zero, List.set_cons_succ])
          refine wpAnyH_ready (rs := [13]) (by kernel_rfl) (by simp) ?_
          refine AllReadyH.cons (o := ?_) ?_ (fun K hK => ?_) AllReadyH.nil
          rotate_left 1
          · simp only [List.getElem?_toArray, List.getElem?_cons_succ, List.getElem?_cons_zero]; rfl
          go_simp
          refine (SD.out _ D13.out).mono ?_; rintro e t2 ⟨rfl, d14⟩
          have D14 := Lib.hid (show Pl20 p d (stepA s0 x) (stepA s0 x) [] w t2 from d14)
          have q14 := KC.out t2 d14.gr
          have c14 := tw_calls_d d14
          clear d14
          go_wp2_with fail
          refine hK.out _ _ ?_ (fun hHeld => ?_)
          · exact ⟨q14.1, q14.2.1, q14.2.2.1⟩
          clear hK K
          (try simp only [Act.put, List.setIfInBounds_toArray, List.set_cons_zero, List.set_cons_succ])
          refine wpAnyH_mono (S := fun w' => w'.cell? ⟨b, o + i * 5, none⟩ = some (.int .i64 x.m.stage) ∧ w'.cell? ⟨b, o + i * 5 + 1, none⟩ = some (.int .i64 x.m.pass) ∧ w'.cell? ⟨b, o + i * 5 + 2, none⟩ = some (.slice fa x.m.files.length fc) ∧ w'.cell? ⟨d, 4, none⟩ = some (.int .i64 (stepA s0 x).calls)) (fun _ h => ⟨h.1, h.2.1, h.2.2.1⟩) _ _ _ _ ?_
          have hHeld2 : (fun w' : World => w'.cell? ⟨b, o + i * 5, none⟩ = some (.int .i64 x.m.stage) ∧ w'.cell? ⟨b, o + i * 5 + 1, none⟩ = some (.int .i64 x.m.pass) ∧ w'.cell? ⟨b, o + i * 5 + 2, none⟩ = some (.slice fa x.m.files.length fc) ∧ w'.cell? ⟨d, 4, none⟩ = some (.int .i64 (stepA s0 x).calls)) t2 := ⟨q14.1, q14.2.1, q14.2.2.1, c14⟩
          clear hHeld
          refine wpAnyH_take (i := 14) (oi := ?_) (v := ?_) ?_ (by kernel_rfl) (by kernel_rfl) (by kernel_rfl) ?_ (Or.inl ⟨?_, ?_⟩) (by assumption) ?_
          rotate_left 2
          · simp only [List.getElem?_toArray, List.getElem?_cons_succ, List.getElem?_cons_zero]; rfl
          · exact fun _ _ _ h => h
          · rfl
          · intro w hSw; (try dsimp only at hSw); go_simp <;> with_reducible rfl
          (try simp only [Act.put, List.setIfInBounds_toArray, List.set_cons_zero, List.set_cons_succ])
          refine wpAnyH_take (i := 15) (oi := ?_) (v := ?_) ?_ (by kernel_rfl) (by kernel_rfl) (by kernel_rfl) ?_ (Or.inl ⟨?_, ?_⟩) (by assumption) ?_
          rotate_left 2
          · simp only [List.getElem?_toArray, List.getElem?_cons_succ, List.getElem?_cons_zero]; rfl
          · exact fun _ _ _ h => h
          · rfl
          · intro w hSw; (try dsimp only at hSw); go_simp <;> with_reducible rfl
          (try simp only [Act.put, List.setIfInBounds_toArray, List.set_cons_zero, List.set_cons_succ])
          refine wpAnyH_take (i := 16) (oi := ?_) (v := ?_) ?_ (by kernel_rfl) (by kernel_rfl) (by kernel_rfl) ?_ (Or.inl ⟨?_, ?_⟩) (by assumption) ?_
          rotate_left 2
          · simp only [List.getElem?_toArray, List.getElem?_cons_succ, List.getElem?_cons_zero]; rfl
          · exact fun _ _ _ h => h
          · rfl
          · intro w hSw; (try dsimp only at hSw); go_simp <;> with_reducible rfl
          (try simp only [Act.put, List.setIfInBounds_toArray, List.set_cons_zero, List.set_cons_succ])
          refine wpAnyH_take (i := 18) (oi := ?_) (v := ?_) ?_ (by kernel_rfl) (by kernel_rfl) (by kernel_rfl) ?_ (Or.inl ⟨?_, ?_⟩) (by assumption) ?_
          rotate_left 2
          · simp only [List.getElem?_toArray, List.getElem?_cons_succ, List.getElem?_cons_zero]; rfl
          · exact fun _ _ _ h => h
          · rfl
          · intro w hSw; (try dsimp only at hSw); go_simp <;> with_reducible rfl
          (try simp only [Act.put, List.setIfInBounds_toArray, List.set_cons_zero, List.set_cons_succ])
          refine wpAnyH_take (i := 19) (oi := ?_) (v := ?_) ?_ (by kernel_rfl) (by kernel_rfl) (by kernel_rfl) ?_ (Or.inl ⟨?_, ?_⟩) (by assumption) ?_
          rotate_left 2
          · simp only [List.getElem?_toArray, List.getElem?_cons_succ, List.getElem?_cons_zero]; rfl
          · exact fun _ _ _ h => h
          · rfl
          · intro w hSw; (try dsimp only at hSw); go_simp <;> with_reducible rfl
          (try simp only [Act.put, List.setIfInBounds_toArray, List.set_cons_zero, List.set_cons_succ])
          refine wpAnyH_take (i := 20) (oi := ?_) (v := ?_) ?_ (by kernel_rfl) (by kernel_rfl) (by kernel_rfl) ?_ (Or.inl ⟨?_, ?_⟩) (by assumption) ?_
          rotate_left 2
          · simp only [List.getElem?_toArray, List.getElem?_cons_succ, List.getElem?_cons_zero]; rfl
          · exact fun _ _ _ h => h
          · rfl
          · intro w hSw; (try dsimp only at hSw); go_simp <;> with_reducible rfl
          (try simp only [Act.put, List.setIfInBounds_toArray, List.set_cons_zero, List.set_cons_succ])
          refine wpAnyH_take (i := 21) (oi := ?_) (v := ?_) ?_ (by kernel_rfl) (by kernel_rfl) (by kernel_rfl) ?_ (Or.inl ⟨?_, ?_⟩) (by assumption) ?_
          rotate_left 2
          · simp only [List.getElem?_toArray, List.getElem?_cons_succ, List.getElem?_cons_zero]; rfl
          · exact fun _ _ _ h => h
          · rfl
          · intro w hSw; (try dsimp only at hSw); go_simp <;> with_reducible rfl
          (try simp only [Act.put, List.setIfInBounds_toArray, List.set_cons_zero, List.set_cons_succ])
          refine wpAnyH_ready (rs := [17]) (by kernel_rfl) (by simp) ?_
          refine AllReadyH.cons (o := ?_) ?_ (fun K hK => ?_) AllReadyH.nil
          rotate_left 1
          · simp only [List.getElem?_toArray, List.getElem?_cons_succ, List.getElem?_cons_zero]; rfl
          go_simp
          refine (CP.out _ D14.out).mono ?_; rintro e t3 ⟨rfl, rfl⟩
          go_wp2_with fail
          refine hK.out _ _ ?_ (fun hHeld => ?_)
          · exact ⟨q14.1, q14.2.1, q14.2.2.1, c14⟩
          clear hK K
          (try simp only [Act.put, List.setIfInBounds_toArray, List.set_cons_zero, List.set_cons_succ])
          refine wpAnyH_take (i := 22) (oi := ?_) (v := ?_) ?_ (by kernel_rfl) (by kernel_rfl) (by kernel_rfl) ?_ (Or.inl ⟨?_, ?_⟩) (by assumption) ?_
          rotate_left 2
          · simp only [List.getElem?_toArray, List.getElem?_cons_succ, List.getElem?_cons_zero]; rfl
          · exact fun _ _ _ h => h
          · rfl
          · intro w hSw; (try dsimp only at hSw); go_simp <;> with_reducible rfl
          (try simp only [Act.put, List.setIfInBounds_toArray, List.set_cons_zero, List.set_cons_succ])
          refine wpAnyH_take (i := 23) (oi := ?_) (v := ?_) ?_ (by kernel_rfl) (by kernel_rfl) (by kernel_rfl) ?_ (Or.inl ⟨?_, ?_⟩) (by assumption) ?_
          rotate_left 2
          · simp only [List.getElem?_toArray, List.getElem?_cons_succ, List.getElem?_cons_zero]; rfl
          · exact fun _ _ _ h => h
          · rfl
          · intro w hSw; (try dsimp only at hSw); go_simp <;> with_reducible rfl
          (try simp only [Act.put, List.setIfInBounds_toArray, List.set_cons_zero, List.set_cons_succ])
          refine wpAnyH_done (by kernel_rfl) ?_ _
          have LP := Lib.hid (tw_load_p D14.out BC.out.2.1 (load_small (step_smalls x SM.out).1))
          have LD := Lib.hid (fun M u (D : Pl20 p d (loadT (stepA s0 x)) (stepA s0 x) M w u) => tw_load_d D BC.out.2.1 (load_small (step_smalls x SM.out).1))
          have RP := Lib.hid (fun M u (D : Pl20 p d (loadT (stepA s0 x)) (loadT (stepA s0 x)) M w u) => tw_rise_p (kc := kc) D KR.out HX.out.2.2.2 K10.out)
          have RD := Lib.hid (fun M u (D : Pl20 p d (stepB s0 x) (loadT (stepA s0 x)) M w u) => tw_rise_d (kc := kc) D KR.out K10.out)
          have LP2 := Lib.hid (fun M u (D : Pl20 p d (stepB s0 x) (stepB s0 x) M w u) => tw_load_p D BC.out.2.2.2 (load_small (step_smalls x SM.out).2.1))
          have LD2 := Lib.hid (fun M u (D : Pl20 p d (stepC s0 x) (stepB s0 x) M w u) => tw_load_d D BC.out.2.2.2 (load_small (step_smalls x SM.out).2.1))
          have UP := Lib.hid (fun M u (D : Pl20 p d (stepC s0 x) (stepC s0 x) M w u) => tw_used_p D)
          have UD := Lib.hid (fun M u (D : Pl20 p d (stepC s0 x) (stepC s0 x) M w u) => tw_used_d D)
          have FIN := Lib.hid (fun M u (D : Pl20 p d (stepC s0 x) (stepC s0 x) M w u) => (show Rel20 p d l w (.int .i64 ((i : Int) + 1)) u from ⟨i + 1, stepC s0 x, by omega, by rw [Int.natCast_add]; rfl, D.bare, (step_smalls x SM.out).2.2, by have := (step_calls s0 x).2.2.2; have := SC.out; omega⟩))
          clear D14 q13 q14 c14 hHeld2 D13 SP SD CP D12 AD12 kb0 kb1 kb2 k0 k1 k2
          go_wp2_with fail
          refine LP.out.mono ?_; rintro e u21 ⟨m1, a1, c1, b1, e1, rfl, hl1, hd1, d21⟩
          obtain ⟨V1, hV1⟩ : ∃ V, u21.alloc (.cells #[.int .i64 m1.stage, .int .i64 m1.pass, .slice a1 m1.files.length c1] 36) = V := ⟨_, rfl⟩
          have DV1 := Lib.hid (show Pl20 p d (loadT (stepA s0 x)) (stepA s0 x) [Blk u21.heap.size #[.int .i64 m1.stage, .int .i64 m1.pass, .slice a1 m1.files.length c1] 36, FlA (.slice a1 m1.files.length c1) m1.files] w V1 from d21.blk hV1.symm)
          have LDx := Lib.hid (LD.out _ _ DV1.out)
          have HD1 := Lib.hid (And.intro hl1 hd1)
          clear d21 LP LD hl1 hd1
          go_wp2_with fail
          refine LDx.out.mono ?_; rintro e u22 ⟨m2, a2, c2, b2, e2, rfl, hl2, hd2, d22⟩
          obtain ⟨rfl, rfl, rfl⟩ := ldIs_one HD1.out.2 hd2
          obtain ⟨V2, hV2⟩ : ∃ V, u22.alloc (.cells #[.int .i64 m2.stage, .int .i64 m2.pass, .slice a2 m2.files.length c2] 36) = V := ⟨_, rfl⟩
          have DV2 := Lib.hid (show Pl20 p d (loadT (stepA s0 x)) (loadT (stepA s0 x)) [Blk u22.heap.size #[.int .i64 m2.stage, .int .i64 m2.pass, .slice a2 m2.files.length c2] 36, Blk u21.heap.size #[.int .i64 m2.stage, .int .i64 m2.pass, .slice a1 m2.files.length c1] 36, FlA (.slice a1 m2.files.length c1) m2.files, FlA (.slice a2 m2.files.length c2) m2.files] w V2 from d22.blk hV2.symm)
          obtain ⟨⟨xa0, xa1, xa2⟩, _⟩ := mn_cells (DV2.out.at 1 rfl)
          obtain ⟨⟨xb0, xb1, xb2⟩, _⟩ := mn_cells (DV2.out.at 0 rfl)
          have SMx := Lib.hid (rsame_one m2 V2 (DV2.out.fl 2 rfl) (DV2.out.fl 3 rfl) hl2)
          clear d22 LDx HD1 hl2 hd2 hV1
          go_wp2_with fail
          refine SMx.out.mono ?_; rintro e u23 ⟨rfl, g23⟩
          have D23 := Lib.hid (DV2.out.on g23)
          obtain ⟨k0, k1, k2, k3, k4⟩ := KC.out u23 D23.out.gr
          have RPx := Lib.hid (RP.out _ _ D23.out)
          clear xa0 xa1 xa2 xb0 xb1 xb2 SMx DV1 DV2 g23 k0 k1 k2 k3 hV2 RP
          go_wp2_with fail
          refine RPx.out.mono ?_; rintro e u25 ⟨rfl, d25⟩
          obtain ⟨k0, k1, k2, k3, k4'⟩ := KC.out u25 d25.gr
          have RDx := Lib.hid (RD.out _ _ d25)
          clear k0 k1 k2 k3 k4 d25 RPx RD D23
          go_wp2_with fail
          refine RDx.out.mono ?_; rintro e u26 ⟨rfl, d26⟩
          have LPx := Lib.hid (LP2.out _ _ d26)
          clear d26 k4' RDx LP2
          go_wp2_with fail
          refine LPx.out.mono ?_; rintro e u27 ⟨m3, a3, c3, b3, e3, rfl, hl3, hd3, d27⟩
          obtain ⟨⟨xa0, xa1, xa2⟩, fa0, fa1, fa2⟩ := mn_cells (d27.at 1 rfl)
          obtain ⟨V3, hV3⟩ : ∃ V, ((u27.setCell ⟨u21.heap.size, 0, none⟩ (.int .i64 m3.stage)).setCell ⟨u21.heap.size, 1, none⟩ (.int .i64 m3.pass)).setCell ⟨u21.heap.size, 2, none⟩ (.slice a3 m3.files.length c3) = V := ⟨_, rfl⟩
          have DV3 := Lib.hid (show Pl20 p d (stepC s0 x) (stepB s0 x) [Blk u22.heap.size #[.int .i64 m2.stage, .int .i64 m2.pass, .slice a2 m2.files.length c2] 36, Blk u21.heap.size #[.int .i64 m3.stage, .int .i64 m3.pass, .slice a3 m3.files.length c3] 36, FlA (.slice a1 m2.files.length c1) m2.files, FlA (.slice a2 m2.files.length c2) m2.files, FlA (.slice a3 m3.files.length c3) m3.files] w V3 from by rw [← hV3]; exact d27.set3 1 rfl rfl _ _ _)
          have LDx := Lib.hid (LD2.out _ _ DV3.out)
          have HD3 := Lib.hid (And.intro hl3 hd3)
          clear d27 LPx LD2 hl3 hd3
          go_wp2_with fail
          refine LDx.out.mono ?_; rintro e u28 ⟨m4, a4, c4, b4, e4, rfl, hl4, hd4, d28⟩
          obtain ⟨rfl, rfl, rfl⟩ := ldIs_one HD3.out.2 hd4
          clear xa0 xa1 xa2 fa0 fa1 fa2 hV3
          obtain ⟨⟨xb0, xb1, xb2⟩, fb0, fb1, fb2⟩ := mn_cells (d28.at 0 rfl)
          obtain ⟨⟨xa0, xa1, xa2⟩, _⟩ := mn_cells (d28.at 1 rfl)
          obtain ⟨V4, hV4⟩ : ∃ V, ((u28.setCell ⟨u22.heap.size, 0, none⟩ (.int .i64 m4.stage)).setCell ⟨u22.heap.size, 1, none⟩ (.int .i64 m4.pass)).setCell ⟨u22.heap.size, 2, none⟩ (.slice a4 m4.files.length c4) = V := ⟨_, rfl⟩
          have DV4 := Lib.hid (show Pl20 p d (stepC s0 x) (stepC s0 x) [Blk u22.heap.size #[.int .i64 m4.stage, .int .i64 m4.pass, .slice a4 m4.files.length c4] 36, Blk u21.heap.size #[.int .i64 m4.stage, .int .i64 m4.pass, .slice a3 m4.files.length c3] 36, FlA (.slice a1 m2.files.length c1) m2.files, FlA (.slice a2 m2.files.length c2) m2.files, FlA (.slice a3 m4.files.length c3) m4.files, FlA (.slice a4 m4.files.length c4) m4.files] w V4 from by rw [← hV4]; exact d28.set3 0 rfl rfl _ _ _)
          have SMx := Lib.hid (rsame_one m4 V4 (DV4.out.fl 4 rfl) (DV4.out.fl 5 rfl) hl4)
          have VA := Lib.hid (mn_cells (DV4.out.at 1 rfl)).1
          have VB := Lib.hid (mn_cells (DV4.out.at 0 rfl)).1
          obtain ⟨ya0, ya1, ya2⟩ := VA.out
          obtain ⟨yb0, yb1, yb2⟩ := VB.out
          clear LDx HD3 hl4 hd4 d28 DV3 VA VB
          go_wp2_with fail
          refine SMx.out.mono ?_; rintro e u29 ⟨rfl, g29⟩
          have UPx := Lib.hid (UP.out _ _ (DV4.out.on g29))
          clear g29 SMx DV4 UP xa0 xa1 xa2 xb0 xb1 xb2 fb0 fb1 fb2 ya0 ya1 ya2 yb0 yb1 yb2 hV4
          go_wp2_with fail
          refine UPx.out.mono ?_; rintro e u30 ⟨rfl, d30⟩
          have UDx := Lib.hid (UD.out _ _ d30)
          clear d30 UPx UD
          go_wp2_with fail
          refine UDx.out.mono ?_; rintro e u31 ⟨rfl, d31⟩
          have FN := Lib.hid (FIN.out _ _ d31)
          clear d31 UDx FIN
          go_wp2_with fail
          refine ⟨FN.out, ?_⟩
          simp [intOf]; omega
        · obtain rfl : i = l.length := by omega
          have AW := Lib.hid (awake20_c wr)
          have G0 := Lib.hid D0.out.gr
          clear hlt hi
          go_wp2_with fail
          refine AW.out.mono ?_; rintro e u ⟨rfl, g⟩
          have G := Lib.hid (G0.out.trans g)
          clear g
          go_wp2_with fail
          go_ret
          exact ⟨rfl, G.out⟩
    · have P1 := Lib.hid (C1P.out p d u3 D3.out)
      clear C1P
      unfold nameS at P1
      go_wp2_with fail
      refine P1.out.mono ?_; rintro e u4 ⟨rfl, d4⟩
      have P2 := Lib.hid (C1D.out p d u4 d4)
      unfold nameS at P2
      clear d4 P1 C1D D3
      go_wp2_with fail
      refine P2.out.mono ?_; rintro e u5 ⟨rfl, d5⟩
      have P3 := Lib.hid (A1P.out p d u5 d5)
      unfold nameS at P3
      clear d5 P2 A1P
      go_wp2_with fail
      refine P3.out.mono ?_; rintro e u6 ⟨rfl, d6⟩
      have P4 := Lib.hid (A1D.out p d u6 d6)
      unfold nameS at P4
      clear d6 P3 A1D
      go_wp2_with fail
      refine P4.out.mono ?_; rintro e u7 ⟨rfl, d7⟩
      have P5 := Lib.hid (C2P.out p d u7 d7)
      unfold wayS at P5
      clear d7 P4 C2P
      go_wp2_with fail
      refine P5.out.mono ?_; rintro e u8 ⟨rfl, d8⟩
      have P6 := Lib.hid (C2D.out p d u8 d8)
      unfold wayS at P6
      clear d8 P5 C2D
      go_wp2_with fail
      refine P6.out.mono ?_; rintro e u9 ⟨rfl, d9⟩
      have S0 := Lib.hid (show ∃ s0 : St, Pl20 p d s0 s0 [] w u9 ∧ Smalls s0 ∧ s0.calls ≤ 3 from ⟨_, d9, SX.out, LC.out.2.2⟩)
      clear d9 P6
      go_wp2_with fail
      go_loopw [10] (fun v wr => Rel20 p d l w v wr) (fun v _ => l.length - (intOf v).toNat)
      case atStart =>
        obtain ⟨s0, dd, sm, sc⟩ := S0.out
        exact ⟨0, s0, Nat.zero_le _, rfl, dd, sm, by omega⟩
      case round =>
        obtain ⟨i, s0, hi, rfl, dd, sm, sc⟩ := hrel
        have D0 := Lib.hid dd
        have SM := Lib.hid sm
        have SC := Lib.hid sc
        clear dd sm sc
        by_cases hlt : i < l.length
        · obtain ⟨_, hc, b, o, rfl, hb, fa, fc, ka, kc, k0, k1, k2, k3, k4, k5, k6⟩ := ty_get (HL.out w (Gr.refl w)) hlt
          have hkx := HK.out _ (List.getElem_mem hlt)
          obtain ⟨x, hx⟩ : ∃ x, l[i] = x := ⟨_, rfl⟩
          have hk10 := (HA.out _ (List.getElem_mem hlt)).2
          rw [hx] at k0 k1 k2 k3 k4 k5 k6 hkx hk10
          have q1 : (i : Int) < (l.length : Int) := by omega
          have KC := Lib.hid (fun u (g : Gr w u) => (⟨(Below.cell g (p := ⟨b, _, none⟩) hb).trans k0, (Below.cell g (p := ⟨b, _, none⟩) hb).trans k1, (Below.cell g (p := ⟨b, _, none⟩) hb).trans k2, (Below.cell g (p := ⟨b, _, none⟩) hb).trans k3, (Below.cell g (p := ⟨b, _, none⟩) hb).trans k4⟩ : u.cell? ⟨b, o + i * 5, none⟩ = some (.int .i64 x.m.stage) ∧ u.cell? ⟨b, o + i * 5 + 1, none⟩ = some (.int .i64 x.m.pass) ∧ u.cell? ⟨b, o + i * 5 + 2, none⟩ = some (.slice fa x.m.files.length fc) ∧ u.cell? ⟨b, o + i * 5 + 3, none⟩ = some (.int .i64 x.fuse) ∧ u.cell? ⟨b, o + i * 5 + 4, none⟩ = some (.slice ka x.keep.length kc)))
          have KL := Lib.hid (fun u (g : Gr w u) => k5.gr g)
          have KR := Lib.hid k6
          have HX := Lib.hid hkx
          have K10 := Lib.hid (show x.keep.length ≤ 1000000 by have := hk10; omega)
          clear hk10
          clear k0 k1 k2 k3 k4 k5 k6 hkx hx hlt hi
          obtain ⟨k0, k1, k2, k3, k4⟩ := KC.out wr D0.out.gr
          have AR := Lib.hid (tw_arm_p D0.out x.fuse HX.out.2.1)
          clear k0 k1 k2 k4 D0
          go_wp2_with fail
          refine AR.out.mono ?_; rintro e u11 ⟨rfl, d11⟩
          have AD := Lib.hid (tw_arm_d d11 x.fuse HX.out.2.1)
          clear k3 AR
          obtain ⟨k0, k1, k2, k3, k4⟩ := KC.out u11 d11.gr
          clear k0 k1 k2 k4 d11
          go_wp2_with fail
          refine AD.out.mono ?_; rintro e u12 ⟨rfl, d12⟩
          have D12 := Lib.hid d12
          clear d12 k3 AD
          have AD12 := Lib.hid D12.out
          go_wp2_with fail
          have D12 := Lib.hid (D12.out.on (show Gr u12 u12.drew from Below.drew (Gr.refl _)))
          obtain ⟨k0, k1, k2, k3, k4⟩ := KC.out _ D12.out.gr
          obtain ⟨kb0, kb1, kb2, _, _⟩ := KC.out u12 ((AD12.out).gr)
          clear k3 k4
          have sb := (step_calls s0 x)
          have ic : (i : Int) ≤ 8 := by omega
          have BC := Lib.hid (show (armed s0 x.fuse).calls ≤ 1000000000 ∧ (stepA s0 x).calls ≤ 1000000000 ∧ (loadT (stepA s0 x)).calls ≤ 1000000000 ∧ (stepB s0 x).calls ≤ 1000000000 by
            have a0 : (armed s0 x.fuse).calls = s0.calls := rfl
            have := SC.out
            obtain ⟨b1, b2, b3, _⟩ := sb
            refine ⟨?_, ?_, ?_, ?_⟩ <;> omega)
          have SP := Lib.hid (tw_save_p (m := x.m) D12.out BC.out.1 (KL.out w (Gr.refl w)) HX.out.1.1 HX.out.1.2.1)
          have SD := Lib.hid (fun u (D : Pl20 p d (stepA s0 x) (armed s0 x.fuse) [] w u) => tw_save_d (m := x.m) D BC.out.1 (KL.out w (Gr.refl w)) HX.out.1.1 HX.out.1.2.1 HX.out.1.2.2.1 HX.out.1.2.2.2)
          have CP := Lib.hid (fun u (D : Pl20 p d (stepA s0 x) (stepA s0 x) [] w u) => tw_calls_p D)
          clear sb ic
          refine wp_region_held_drew (S := fun w' => w'.cell? ⟨b, o + i * 5, none⟩ = some (.int .i64 x.m.stage) ∧ w'.cell? ⟨b, o + i * 5 + 1, none⟩ = some (.int .i64 x.m.pass) ∧ w'.cell? ⟨b, o + i * 5 + 2, none⟩ = some (.slice fa x.m.files.length fc)) (by kernel_rfl) ⟨k0, k1, k2⟩ (fun hHeld => ?_)
          refine wpAnyH_take (i := 0) (oi := ?_) (v := ?_) ?_ (by kernel_rfl) (by kernel_rfl) (by kernel_rfl) ?_ (Or.inl ⟨?_, ?_⟩) (by assumption) ?_
          rotate_left 2
          · simp only [List.getElem?_toArray, List.getElem?_cons_succ, List.getElem?_cons_zero]; rfl
          · exact fun _ _ _ h => h
          · rfl
          · intro w hSw; (try dsimp only at hSw); go_simp <;> with_reducible rfl
          (try simp only [Act.put, List.setIfInBounds_toArray, List.set_cons_zero, List.set_cons_succ])
          refine wpAnyH_take (i := 1) (oi := ?_) (v := ?_) ?_ (by kernel_rfl) (by kernel_rfl) (by kernel_rfl) ?_ (Or.inl ⟨?_, ?_⟩) (by assumption) ?_
          rotate_left 2
          · simp only [List.getElem?_toArray, List.getElem?_cons_succ, List.getElem?_cons_zero]; rfl
          · exact fun _ _ _ h => h
          · rfl
          · intro w hSw; (try dsimp only at hSw); go_simp <;> with_reducible rfl
          (try simp only [Act.put, List.setIfInBounds_toArray, List.set_cons_zero, List.set_cons_succ])
          refine wpAnyH_take (i := 2) (oi := ?_) (v := ?_) ?_ (by kernel_rfl) (by kernel_rfl) (by kernel_rfl) ?_ (Or.inl ⟨?_, ?_⟩) (by assumption) ?_
          rotate_left 2
          · simp only [List.getElem?_toArray, List.getElem?_cons_succ, List.getElem?_cons_zero]; rfl
          · exact fun _ _ _ h => h
          · rfl
          · intro w hSw; (try dsimp only at hSw); go_simp <;> with_reducible rfl
          (try simp only [Act.put, List.setIfInBounds_toArray, List.set_cons_zero, List.set_cons_succ])
          refine wpAnyH_take (i := 3) (oi := ?_) (v := ?_) ?_ (by kernel_rfl) (by kernel_rfl) (by kernel_rfl) ?_ (Or.inl ⟨?_, ?_⟩) (by assumption) ?_
          rotate_left 2
          · simp only [List.getElem?_toArray, List.getElem?_cons_succ, List.getElem?_cons_zero]; rfl
          · exact fun _ _ _ h => h
          · rfl
          · intro w hSw; (try dsimp only at hSw); go_simp <;> with_reducible rfl
          (try simp only [Act.put, List.setIfInBounds_toArray, List.set_cons_zero, List.set_cons_succ])
          refine wpAnyH_take (i := 4) (oi := ?_) (v := ?_) ?_ (by kernel_rfl) (by kernel_rfl) (by kernel_rfl) ?_ (Or.inl ⟨?_, ?_⟩) (by assumption) ?_
          rotate_left 2
          · simp only [List.getElem?_toArray, List.getElem?_cons_succ, List.getElem?_cons_zero]; rfl
          · exact fun _ _ _ h => h
          · rfl
          · intro w hSw; (try dsimp only at hSw); go_simp <;> with_reducible rfl
          (try simp only [Act.put, List.setIfInBounds_toArray, List.set_cons_zero, List.set_cons_succ])
          refine wpAnyH_take (i := 5) (oi := ?_) (v := ?_) ?_ (by kernel_rfl) (by kernel_rfl) (by kernel_rfl) ?_ (Or.inl ⟨?_, ?_⟩) (by assumption) ?_
          rotate_left 2
          · simp only [List.getElem?_toArray, List.getElem?_cons_succ, List.getElem?_cons_zero]; rfl
          · exact fun _ _ _ h => h
          · rfl
          · intro w hSw; (try dsimp only at hSw); go_simp <;> with_reducible rfl
          (try simp only [Act.put, List.setIfInBounds_toArray, List.set_cons_zero, List.set_cons_succ])
          refine wpAnyH_take (i := 7) (oi := ?_) (v := ?_) ?_ (by kernel_rfl) (by kernel_rfl) (by kernel_rfl) ?_ (Or.inl ⟨?_, ?_⟩) (by assumption) ?_
          rotate_left 2
          · simp only [List.getElem?_toArray, List.getElem?_cons_succ, List.getElem?_cons_zero]; rfl
          · exact fun _ _ _ h => h
          · rfl
          · intro w hSw; (try dsimp only at hSw); go_simp <;> with_reducible rfl
          (try simp only [Act.put, List.setIfInBounds_toArray, List.set_cons_zero, List.set_cons_succ])
          refine wpAnyH_take (i := 8) (oi := ?_) (v := ?_) ?_ (by kernel_rfl) (by kernel_rfl) (by kernel_rfl) ?_ (Or.inl ⟨?_, ?_⟩) (by assumption) ?_
          rotate_left 2
          · simp only [List.getElem?_toArray, List.getElem?_cons_succ, List.getElem?_cons_zero]; rfl
          · exact fun _ _ _ h => h
          · rfl
          · intro w hSw; (try dsimp only at hSw); go_simp <;> with_reducible rfl
          (try simp only [Act.put, List.setIfInBounds_toArray, List.set_cons_zero, List.set_cons_succ])
          refine wpAnyH_take (i := 9) (oi := ?_) (v := ?_) ?_ (by kernel_rfl) (by kernel_rfl) (by kernel_rfl) ?_ (Or.inl ⟨?_, ?_⟩) (by assumption) ?_
          rotate_left 2
          · simp only [List.getElem?_toArray, List.getElem?_cons_succ, List.getElem?_cons_zero]; rfl
          · exact fun _ _ _ h => h
          · rfl
          · intro w hSw; (try dsimp only at hSw); go_simp <;> with_reducible rfl
          (try simp only [Act.put, List.setIfInBounds_toArray, List.set_cons_zero, List.set_cons_succ])
          refine wpAnyH_take (i := 10) (oi := ?_) (v := ?_) ?_ (by kernel_rfl) (by kernel_rfl) (by kernel_rfl) ?_ (Or.inl ⟨?_, ?_⟩) (by assumption) ?_
          rotate_left 2
          · simp only [List.getElem?_toArray, List.getElem?_cons_succ, List.getElem?_cons_zero]; rfl
          · exact fun _ _ _ h => h
          · rfl
          · intro w hSw; (try dsimp only at hSw); go_simp <;> with_reducible rfl
          (try simp only [Act.put, List.setIfInBounds_toArray, List.set_cons_zero, List.set_cons_succ])
          refine wpAnyH_take (i := 11) (oi := ?_) (v := ?_) ?_ (by kernel_rfl) (by kernel_rfl) (by kernel_rfl) ?_ (Or.inl ⟨?_, ?_⟩) (by assumption) ?_
          rotate_left 2
          · simp only [List.getElem?_toArray, List.getElem?_cons_succ, List.getElem?_cons_zero]; rfl
          · exact fun _ _ _ h => h
          · rfl
          · intro w hSw; (try dsimp only at hSw); go_simp <;> with_reducible rfl
          (try simp only [Act.put, List.setIfInBounds_toArray, List.set_cons_zero, List.set_cons_succ])
          refine wpAnyH_take (i := 12) (oi := ?_) (v := ?_) ?_ (by kernel_rfl) (by kernel_rfl) (by kernel_rfl) ?_ (Or.inl ⟨?_, ?_⟩) (by assumption) ?_
          rotate_left 2
          · simp only [List.getElem?_toArray, List.getElem?_cons_succ, List.getElem?_cons_zero]; rfl
          · exact fun _ _ _ h => h
          · rfl
          · intro w hSw; (try dsimp only at hSw); go_simp <;> with_reducible rfl
          (try simp only [Act.put, List.setIfInBounds_toArray, List.set_cons_zero, List.set_cons_succ])
          refine wpAnyH_ready (rs := [6]) (by kernel_rfl) (by simp) ?_
          refine AllReadyH.cons (o := ?_) ?_ (fun K hK => ?_) AllReadyH.nil
          rotate_left 1
          · simp only [List.getElem?_toArray, List.getElem?_cons_succ, List.getElem?_cons_zero]; rfl
          go_simp
          refine (SP.out).mono ?_; rintro e t1 ⟨rfl, d13⟩
          have D13 := Lib.hid (show Pl20 p d (stepA s0 x) (armed s0 x.fuse) [] w t1 from d13)
          have q13 := KC.out t1 d13.gr
          clear d13
          go_wp2_with fail
          refine hK.out _ _ ?_ (fun hHeld => ?_)
          · exact ⟨q13.1, q13.2.1, q13.2.2.1⟩
          clear hK K
          (try simp only [Act.put, List.setIfInBounds_toArray, List.set_cons_zero, List.set_cons_succ])
          refine wpAnyH_ready (rs := [13]) (by kernel_rfl) (by simp) ?_
          refine AllReadyH.cons (o := ?_) ?_ (fun K hK => ?_) AllReadyH.nil
          rotate_left 1
          · simp only [List.getElem?_toArray, List.getElem?_cons_succ, List.getElem?_cons_zero]; rfl
          go_simp
          refine (SD.out _ D13.out).mono ?_; rintro e t2 ⟨rfl, d14⟩
          have D14 := Lib.hid (show Pl20 p d (stepA s0 x) (stepA s0 x) [] w t2 from d14)
          have q14 := KC.out t2 d14.gr
          have c14 := tw_calls_d d14
          clear d14
          go_wp2_with fail
          refine hK.out _ _ ?_ (fun hHeld => ?_)
          · exact ⟨q14.1, q14.2.1, q14.2.2.1⟩
          clear hK K
          (try simp only [Act.put, List.setIfInBounds_toArray, List.set_cons_zero, List.set_cons_succ])
          refine wpAnyH_mono (S := fun w' => w'.cell? ⟨b, o + i * 5, none⟩ = some (.int .i64 x.m.stage) ∧ w'.cell? ⟨b, o + i * 5 + 1, none⟩ = some (.int .i64 x.m.pass) ∧ w'.cell? ⟨b, o + i * 5 + 2, none⟩ = some (.slice fa x.m.files.length fc) ∧ w'.cell? ⟨d, 4, none⟩ = some (.int .i64 (stepA s0 x).calls)) (fun _ h => ⟨h.1, h.2.1, h.2.2.1⟩) _ _ _ _ ?_
          have hHeld2 : (fun w' : World => w'.cell? ⟨b, o + i * 5, none⟩ = some (.int .i64 x.m.stage) ∧ w'.cell? ⟨b, o + i * 5 + 1, none⟩ = some (.int .i64 x.m.pass) ∧ w'.cell? ⟨b, o + i * 5 + 2, none⟩ = some (.slice fa x.m.files.length fc) ∧ w'.cell? ⟨d, 4, none⟩ = some (.int .i64 (stepA s0 x).calls)) t2 := ⟨q14.1, q14.2.1, q14.2.2.1, c14⟩
          clear hHeld
          refine wpAnyH_take (i := 14) (oi := ?_) (v := ?_) ?_ (by kernel_rfl) (by kernel_rfl) (by kernel_rfl) ?_ (Or.inl ⟨?_, ?_⟩) (by assumption) ?_
          rotate_left 2
          · simp only [List.getElem?_toArray, List.getElem?_cons_succ, List.getElem?_cons_zero]; rfl
          · exact fun _ _ _ h => h
          · rfl
          · intro w hSw; (try dsimp only at hSw); go_simp <;> with_reducible rfl
          (try simp only [Act.put, List.setIfInBounds_toArray, List.set_cons_zero, List.set_cons_succ])
          refine wpAnyH_take (i := 15) (oi := ?_) (v := ?_) ?_ (by kernel_rfl) (by kernel_rfl) (by kernel_rfl) ?_ (Or.inl ⟨?_, ?_⟩) (by assumption) ?_
          rotate_left 2
          · simp only [List.getElem?_toArray, List.getElem?_cons_succ, List.getElem?_cons_zero]; rfl
          · exact fun _ _ _ h => h
          · rfl
          · intro w hSw; (try dsimp only at hSw); go_simp <;> with_reducible rfl
          (try simp only [Act.put, List.setIfInBounds_toArray, List.set_cons_zero, List.set_cons_succ])
          refine wpAnyH_take (i := 16) (oi := ?_) (v := ?_) ?_ (by kernel_rfl) (by kernel_rfl) (by kernel_rfl) ?_ (Or.inl ⟨?_, ?_⟩) (by assumption) ?_
          rotate_left 2
          · simp only [List.getElem?_toArray, List.getElem?_cons_succ, List.getElem?_cons_zero]; rfl
          · exact fun _ _ _ h => h
          · rfl
          · intro w hSw; (try dsimp only at hSw); go_simp <;> with_reducible rfl
          (try simp only [Act.put, List.setIfInBounds_toArray, List.set_cons_zero, List.set_cons_succ])
          refine wpAnyH_take (i := 18) (oi := ?_) (v := ?_) ?_ (by kernel_rfl) (by kernel_rfl) (by kernel_rfl) ?_ (Or.inl ⟨?_, ?_⟩) (by assumption) ?_
          rotate_left 2
          · simp only [List.getElem?_toArray, List.getElem?_cons_succ, List.getElem?_cons_zero]; rfl
          · exact fun _ _ _ h => h
          · rfl
          · intro w hSw; (try dsimp only at hSw); go_simp <;> with_reducible rfl
          (try simp only [Act.put, List.setIfInBounds_toArray, List.set_cons_zero, List.set_cons_succ])
          refine wpAnyH_take (i := 19) (oi := ?_) (v := ?_) ?_ (by kernel_rfl) (by kernel_rfl) (by kernel_rfl) ?_ (Or.inl ⟨?_, ?_⟩) (by assumption) ?_
          rotate_left 2
          · simp only [List.getElem?_toArray, List.getElem?_cons_succ, List.getElem?_cons_zero]; rfl
          · exact fun _ _ _ h => h
          · rfl
          · intro w hSw; (try dsimp only at hSw); go_simp <;> with_reducible rfl
          (try simp only [Act.put, List.setIfInBounds_toArray, List.set_cons_zero, List.set_cons_succ])
          refine wpAnyH_take (i := 20) (oi := ?_) (v := ?_) ?_ (by kernel_rfl) (by kernel_rfl) (by kernel_rfl) ?_ (Or.inl ⟨?_, ?_⟩) (by assumption) ?_
          rotate_left 2
          · simp only [List.getElem?_toArray, List.getElem?_cons_succ, List.getElem?_cons_zero]; rfl
          · exact fun _ _ _ h => h
          · rfl
          · intro w hSw; (try dsimp only at hSw); go_simp <;> with_reducible rfl
          (try simp only [Act.put, List.setIfInBounds_toArray, List.set_cons_zero, List.set_cons_succ])
          refine wpAnyH_take (i := 21) (oi := ?_) (v := ?_) ?_ (by kernel_rfl) (by kernel_rfl) (by kernel_rfl) ?_ (Or.inl ⟨?_, ?_⟩) (by assumption) ?_
          rotate_left 2
          · simp only [List.getElem?_toArray, List.getElem?_cons_succ, List.getElem?_cons_zero]; rfl
          · exact fun _ _ _ h => h
          · rfl
          · intro w hSw; (try dsimp only at hSw); go_simp <;> with_reducible rfl
          (try simp only [Act.put, List.setIfInBounds_toArray, List.set_cons_zero, List.set_cons_succ])
          refine wpAnyH_ready (rs := [17]) (by kernel_rfl) (by simp) ?_
          refine AllReadyH.cons (o := ?_) ?_ (fun K hK => ?_) AllReadyH.nil
          rotate_left 1
          · simp only [List.getElem?_toArray, List.getElem?_cons_succ, List.getElem?_cons_zero]; rfl
          go_simp
          refine (CP.out _ D14.out).mono ?_; rintro e t3 ⟨rfl, rfl⟩
          go_wp2_with fail
          refine hK.out _ _ ?_ (fun hHeld => ?_)
          · exact ⟨q14.1, q14.2.1, q14.2.2.1, c14⟩
          clear hK K
          (try simp only [Act.put, List.setIfInBounds_toArray, List.set_cons_zero, List.set_cons_succ])
          refine wpAnyH_take (i := 22) (oi := ?_) (v := ?_) ?_ (by kernel_rfl) (by kernel_rfl) (by kernel_rfl) ?_ (Or.inl ⟨?_, ?_⟩) (by assumption) ?_
          rotate_left 2
          · simp only [List.getElem?_toArray, List.getElem?_cons_succ, List.getElem?_cons_zero]; rfl
          · exact fun _ _ _ h => h
          · rfl
          · intro w hSw; (try dsimp only at hSw); go_simp <;> with_reducible rfl
          (try simp only [Act.put, List.setIfInBounds_toArray, List.set_cons_zero, List.set_cons_succ])
          refine wpAnyH_take (i := 23) (oi := ?_) (v := ?_) ?_ (by kernel_rfl) (by kernel_rfl) (by kernel_rfl) ?_ (Or.inl ⟨?_, ?_⟩) (by assumption) ?_
          rotate_left 2
          · simp only [List.getElem?_toArray, List.getElem?_cons_succ, List.getElem?_cons_zero]; rfl
          · exact fun _ _ _ h => h
          · rfl
          · intro w hSw; (try dsimp only at hSw); go_simp <;> with_reducible rfl
          (try simp only [Act.put, List.setIfInBounds_toArray, List.set_cons_zero, List.set_cons_succ])
          refine wpAnyH_done (by kernel_rfl) ?_ _
          have LP := Lib.hid (tw_load_p D14.out BC.out.2.1 (load_small (step_smalls x SM.out).1))
          have LD := Lib.hid (fun M u (D : Pl20 p d (loadT (stepA s0 x)) (stepA s0 x) M w u) => tw_load_d D BC.out.2.1 (load_small (step_smalls x SM.out).1))
          have RP := Lib.hid (fun M u (D : Pl20 p d (loadT (stepA s0 x)) (loadT (stepA s0 x)) M w u) => tw_rise_p (kc := kc) D KR.out HX.out.2.2.2 K10.out)
          have RD := Lib.hid (fun M u (D : Pl20 p d (stepB s0 x) (loadT (stepA s0 x)) M w u) => tw_rise_d (kc := kc) D KR.out K10.out)
          have LP2 := Lib.hid (fun M u (D : Pl20 p d (stepB s0 x) (stepB s0 x) M w u) => tw_load_p D BC.out.2.2.2 (load_small (step_smalls x SM.out).2.1))
          have LD2 := Lib.hid (fun M u (D : Pl20 p d (stepC s0 x) (stepB s0 x) M w u) => tw_load_d D BC.out.2.2.2 (load_small (step_smalls x SM.out).2.1))
          have UP := Lib.hid (fun M u (D : Pl20 p d (stepC s0 x) (stepC s0 x) M w u) => tw_used_p D)
          have UD := Lib.hid (fun M u (D : Pl20 p d (stepC s0 x) (stepC s0 x) M w u) => tw_used_d D)
          have FIN := Lib.hid (fun M u (D : Pl20 p d (stepC s0 x) (stepC s0 x) M w u) => (show Rel20 p d l w (.int .i64 ((i : Int) + 1)) u from ⟨i + 1, stepC s0 x, by omega, by rw [Int.natCast_add]; rfl, D.bare, (step_smalls x SM.out).2.2, by have := (step_calls s0 x).2.2.2; have := SC.out; omega⟩))
          clear D14 q13 q14 c14 hHeld2 D13 SP SD CP D12 AD12 kb0 kb1 kb2 k0 k1 k2
          go_wp2_with fail
          refine LP.out.mono ?_; rintro e u21 ⟨m1, a1, c1, b1, e1, rfl, hl1, hd1, d21⟩
          obtain ⟨V1, hV1⟩ : ∃ V, u21.alloc (.cells #[.int .i64 m1.stage, .int .i64 m1.pass, .slice a1 m1.files.length c1] 36) = V := ⟨_, rfl⟩
          have DV1 := Lib.hid (show Pl20 p d (loadT (stepA s0 x)) (stepA s0 x) [Blk u21.heap.size #[.int .i64 m1.stage, .int .i64 m1.pass, .slice a1 m1.files.length c1] 36, FlA (.slice a1 m1.files.length c1) m1.files] w V1 from d21.blk hV1.symm)
          have LDx := Lib.hid (LD.out _ _ DV1.out)
          have HD1 := Lib.hid (And.intro hl1 hd1)
          clear d21 LP LD hl1 hd1
          go_wp2_with fail
          refine LDx.out.mono ?_; rintro e u22 ⟨m2, a2, c2, b2, e2, rfl, hl2, hd2, d22⟩
          obtain ⟨rfl, rfl, rfl⟩ := ldIs_one HD1.out.2 hd2
          obtain ⟨V2, hV2⟩ : ∃ V, u22.alloc (.cells #[.int .i64 m2.stage, .int .i64 m2.pass, .slice a2 m2.files.length c2] 36) = V := ⟨_, rfl⟩
          have DV2 := Lib.hid (show Pl20 p d (loadT (stepA s0 x)) (loadT (stepA s0 x)) [Blk u22.heap.size #[.int .i64 m2.stage, .int .i64 m2.pass, .slice a2 m2.files.length c2] 36, Blk u21.heap.size #[.int .i64 m2.stage, .int .i64 m2.pass, .slice a1 m2.files.length c1] 36, FlA (.slice a1 m2.files.length c1) m2.files, FlA (.slice a2 m2.files.length c2) m2.files] w V2 from d22.blk hV2.symm)
          obtain ⟨⟨xa0, xa1, xa2⟩, _⟩ := mn_cells (DV2.out.at 1 rfl)
          obtain ⟨⟨xb0, xb1, xb2⟩, _⟩ := mn_cells (DV2.out.at 0 rfl)
          have SMx := Lib.hid (rsame_one m2 V2 (DV2.out.fl 2 rfl) (DV2.out.fl 3 rfl) hl2)
          clear d22 LDx HD1 hl2 hd2 hV1
          go_wp2_with fail
          refine SMx.out.mono ?_; rintro e u23 ⟨rfl, g23⟩
          have D23 := Lib.hid (DV2.out.on g23)
          obtain ⟨k0, k1, k2, k3, k4⟩ := KC.out u23 D23.out.gr
          have RPx := Lib.hid (RP.out _ _ D23.out)
          clear xa0 xa1 xa2 xb0 xb1 xb2 SMx DV1 DV2 g23 k0 k1 k2 k3 hV2 RP
          go_wp2_with fail
          refine RPx.out.mono ?_; rintro e u25 ⟨rfl, d25⟩
          obtain ⟨k0, k1, k2, k3, k4'⟩ := KC.out u25 d25.gr
          have RDx := Lib.hid (RD.out _ _ d25)
          clear k0 k1 k2 k3 k4 d25 RPx RD D23
          go_wp2_with fail
          refine RDx.out.mono ?_; rintro e u26 ⟨rfl, d26⟩
          have LPx := Lib.hid (LP2.out _ _ d26)
          clear d26 k4' RDx LP2
          go_wp2_with fail
          refine LPx.out.mono ?_; rintro e u27 ⟨m3, a3, c3, b3, e3, rfl, hl3, hd3, d27⟩
          obtain ⟨⟨xa0, xa1, xa2⟩, fa0, fa1, fa2⟩ := mn_cells (d27.at 1 rfl)
          obtain ⟨V3, hV3⟩ : ∃ V, ((u27.setCell ⟨u21.heap.size, 0, none⟩ (.int .i64 m3.stage)).setCell ⟨u21.heap.size, 1, none⟩ (.int .i64 m3.pass)).setCell ⟨u21.heap.size, 2, none⟩ (.slice a3 m3.files.length c3) = V := ⟨_, rfl⟩
          have DV3 := Lib.hid (show Pl20 p d (stepC s0 x) (stepB s0 x) [Blk u22.heap.size #[.int .i64 m2.stage, .int .i64 m2.pass, .slice a2 m2.files.length c2] 36, Blk u21.heap.size #[.int .i64 m3.stage, .int .i64 m3.pass, .slice a3 m3.files.length c3] 36, FlA (.slice a1 m2.files.length c1) m2.files, FlA (.slice a2 m2.files.length c2) m2.files, FlA (.slice a3 m3.files.length c3) m3.files] w V3 from by rw [← hV3]; exact d27.set3 1 rfl rfl _ _ _)
          have LDx := Lib.hid (LD2.out _ _ DV3.out)
          have HD3 := Lib.hid (And.intro hl3 hd3)
          clear d27 LPx LD2 hl3 hd3
          go_wp2_with fail
          refine LDx.out.mono ?_; rintro e u28 ⟨m4, a4, c4, b4, e4, rfl, hl4, hd4, d28⟩
          obtain ⟨rfl, rfl, rfl⟩ := ldIs_one HD3.out.2 hd4
          clear xa0 xa1 xa2 fa0 fa1 fa2 hV3
          obtain ⟨⟨xb0, xb1, xb2⟩, fb0, fb1, fb2⟩ := mn_cells (d28.at 0 rfl)
          obtain ⟨⟨xa0, xa1, xa2⟩, _⟩ := mn_cells (d28.at 1 rfl)
          obtain ⟨V4, hV4⟩ : ∃ V, ((u28.setCell ⟨u22.heap.size, 0, none⟩ (.int .i64 m4.stage)).setCell ⟨u22.heap.size, 1, none⟩ (.int .i64 m4.pass)).setCell ⟨u22.heap.size, 2, none⟩ (.slice a4 m4.files.length c4) = V := ⟨_, rfl⟩
          have DV4 := Lib.hid (show Pl20 p d (stepC s0 x) (stepC s0 x) [Blk u22.heap.size #[.int .i64 m4.stage, .int .i64 m4.pass, .slice a4 m4.files.length c4] 36, Blk u21.heap.size #[.int .i64 m4.stage, .int .i64 m4.pass, .slice a3 m4.files.length c3] 36, FlA (.slice a1 m2.files.length c1) m2.files, FlA (.slice a2 m2.files.length c2) m2.files, FlA (.slice a3 m4.files.length c3) m4.files, FlA (.slice a4 m4.files.length c4) m4.files] w V4 from by rw [← hV4]; exact d28.set3 0 rfl rfl _ _ _)
          have SMx := Lib.hid (rsame_one m4 V4 (DV4.out.fl 4 rfl) (DV4.out.fl 5 rfl) hl4)
          have VA := Lib.hid (mn_cells (DV4.out.at 1 rfl)).1
          have VB := Lib.hid (mn_cells (DV4.out.at 0 rfl)).1
          obtain ⟨ya0, ya1, ya2⟩ := VA.out
          obtain ⟨yb0, yb1, yb2⟩ := VB.out
          clear LDx HD3 hl4 hd4 d28 DV3 VA VB
          go_wp2_with fail
          refine SMx.out.mono ?_; rintro e u29 ⟨rfl, g29⟩
          have UPx := Lib.hid (UP.out _ _ (DV4.out.on g29))
          clear g29 SMx DV4 UP xa0 xa1 xa2 xb0 xb1 xb2 fb0 fb1 fb2 ya0 ya1 ya2 yb0 yb1 yb2 hV4
          go_wp2_with fail
          refine UPx.out.mono ?_; rintro e u30 ⟨rfl, d30⟩
          have UDx := Lib.hid (UD.out _ _ d30)
          clear d30 UPx UD
          go_wp2_with fail
          refine UDx.out.mono ?_; rintro e u31 ⟨rfl, d31⟩
          have FN := Lib.hid (FIN.out _ _ d31)
          clear d31 UDx FIN
          go_wp2_with fail
          refine ⟨FN.out, ?_⟩
          simp [intOf]; omega
        · obtain rfl : i = l.length := by omega
          have AW := Lib.hid (awake20_c wr)
          have G0 := Lib.hid D0.out.gr
          clear hlt hi
          go_wp2_with fail
          refine AW.out.mono ?_; rintro e u ⟨rfl, g⟩
          have G := Lib.hid (G0.out.trans g)
          clear g
          go_wp2_with fail
          go_ret
          exact ⟨rfl, G.out⟩
  · have AW := Lib.hid (fun u => awake20_c u)
    obtain ⟨r, hr⟩ : ∃ r, fewTy l = r := ⟨_, rfl⟩
    rw [hr] at F hok
    have F := Lib.hid F
    clear hl hlm hlK hr
    cases r with
    | false =>
      clear hok
      go_enter Tryz.func3, Tryz.ntmps3
      go_wp2_with fail
      refine F.out.mono ?_; rintro e u1 ⟨rfl, g1⟩
      have G1 := Lib.hid g1
      clear g1
      go_wp2_with fail
      refine (AW.out u1).mono ?_; rintro e u ⟨rfl, g⟩
      have G := Lib.hid (G1.out.trans g)
      clear g
      go_wp2_with fail
      go_ret
      exact ⟨rfl, G.out⟩
    | true =>
      have hs : (100 : Int) < (s.size : Int) := by
        rcases Int.lt_or_le 100 (s.size : Int) with h | h
        · exact h
        · exact absurd ⟨rfl, by omega⟩ hok
      clear hok
      go_enter Tryz.func3, Tryz.ntmps3
      go_wp2_with fail
      refine F.out.mono ?_; rintro e u1 ⟨rfl, g1⟩
      have G1 := Lib.hid g1
      clear g1
      go_wp2_with fail
      refine (AW.out u1).mono ?_; rintro e u ⟨rfl, g⟩
      have G := Lib.hid (G1.out.trans g)
      clear g
      go_wp2_with fail
      go_ret
      exact ⟨rfl, G.out⟩

set_option maxRecDepth 100000 in
theorem lifted (os : Os) (started : os.Started) (H : Type) (enc : TypeId × Value → H) :
    ReturnsInHanded {} Tryz.checked os 3 .any (Rows.commitPlaysSpec.pre6 enc Tryz.prog Tryz.f3 Rows.commitPlaysRow.domain false) (Rows.commitPlaysSpec.post enc Tryz.prog Tryz.f3 false true false false) := by
  refine returnsInHanded_of_change (C := Tryz.checked) own started (by kernel_rfl) Tryz.func3
    (ChangeSpec.witness6 (enc := enc) (C := Tryz.checked) false ⟨#[], #[.slice none 0 0, .string ByteArray.empty, .bool false], []⟩ 8 (by kernel_rfl) (by kernel_rfl) (by kernel_rfl) (by kernel_rfl)) ?_
  intro W base args ds gs before hval0 hW hcnd _
  have hval : ∀ (j : Nat) t v, Tryz.f3.params[j]? = some t → args[j]? = some v → Value.okWide Tryz.prog W .any base t v := hval0
  have hW' := hW
  obtain ⟨p, q, hA0, hV, rfl, hfz, hnd⟩ := hW
  have hA : DataW.TrodAll enc Tryz.prog W 0 (fun _ => true) true Tryz.f3.params.toList args.toList ds p := hA0
  rw [Tryz.params3] at hA hval
  obtain ⟨v0, vs0, d0, ds0, p0, q0, hargs, rfl, rfl, h0, r0⟩ := trodAll_cons hA
  obtain ⟨v1, vs1, d1, ds1, p1, q1, rfl, rfl, rfl, h1, r1⟩ := trodAll_cons r0
  obtain ⟨v2, vs2, d2, ds2, p2, q2, rfl, rfl, rfl, h2, r2⟩ := trodAll_cons r1
  obtain ⟨rfl, rfl, rfl⟩ := trodAll_nil r2
  obtain rfl : args = #[v0, v1, v2] := by cases args; simp_all
  obtain ⟨rfl, rfl⟩ := trodVars_none hV
  have k0 := h0
  have lt0 : ∀ x ∈ p0, x.block < W.heap.size := by obtain ⟨m, hm⟩ := k0; exact DataW.trod_lt m _ _ _ hm
  obtain ⟨a0, l0, c0, e0⟩ := okWide_slice Tryz.underlying22 (hval 0 22 v0 rfl rfl)
  have w0 : Rd Tryz.prog W 22 v0 := by
    obtain ⟨fuel, hf⟩ := h0
    subst e0
    exact ⟨H, enc, fuel, _, by simpa [Value.cells] using hf⟩
  have k1 := h1
  have lt1 : ∀ x ∈ p1, x.block < W.heap.size := by obtain ⟨m, hm⟩ := k1; exact DataW.trod_lt m _ _ _ hm
  obtain ⟨n1, e1⟩ := okWide_string Tryz.underlying9 (hval 1 9 v1 rfl rfl)
  have w1 : Rd Tryz.prog W 9 v1 := by
    obtain ⟨fuel, hf⟩ := h1
    subst e1
    exact ⟨H, enc, fuel, _, by simpa [Value.cells] using hf⟩
  have k2 := h2
  have lt2 : ∀ x ∈ p2, x.block < W.heap.size := by obtain ⟨m, hm⟩ := k2; exact DataW.trod_lt m _ _ _ hm
  obtain ⟨n2, e2⟩ := okWide_bool Tryz.underlying4 (hval 2 4 v2 rfl rfl)
  have w2 : Rd Tryz.prog W 4 v2 := by
    obtain ⟨fuel, hf⟩ := h2
    subst e2
    exact ⟨H, enc, fuel, _, by simpa [Value.cells] using hf⟩
  clear hA0 hval0
  refine (walk v0 v1 v2 W w0 w1 w2).mono fun e W' ⟨he, bel⟩ => ?_
  subst he
  exact ⟨_, rfl, _, _, _, [], _, [], hW', trodAll_mk1 (shut_bool Tryz.underlying4 _), (trodAll_cons_mk (Below.trod laidOut (by kernel_rfl) (of_decide_eq_true (by kernel_rfl)) k0 bel lt0) (trodAll_cons_mk (Below.trod laidOut (by kernel_rfl) (of_decide_eq_true (by kernel_rfl)) k1 bel lt1) (trodAll_cons_mk (Below.trod laidOut (by kernel_rfl) (of_decide_eq_true (by kernel_rfl)) k2 bel lt2) trodAll_mk0))), rfl, bel.frame _, fun h => by cases h⟩

theorem over : Rows.commitPlaysRow.holds Tryz.pinned (OpenSpec.ofChange Rows.commitPlaysSpec) :=
  OpenClaim.holds_of_wide 3 Tryz.f3 rfl rfl rfl rfl rfl rfl rfl ⟨rfl, rfl, rfl, rfl, rfl⟩ rfl rfl rfl rfl rfl (by kernel_rfl) Tryz.func3 (by kernel_rfl)
    (of_decide_eq_true (by kernel_rfl)) (by unfold Func.isWrapper; first | (rw [if_pos (by decide +kernel)]; kernel_rfl) | (rw [if_neg (by decide +kernel)]; exact ⟨rfl, rfl⟩))
    (fun os started H enc _ => lifted os started H enc)

theorem proved : Rows.CommitPlaysSaid := over
#print axioms proved
end Go.Proofs.YtckmciafonnohaaGreat.commitPlays
