/- In one text: RfsSync, RfsRemove, ScRef1. -/
import Derived.Test.YtignfbdgpgidpaaGreatDoorS13
import Derived.Deep.RegionLaw
import Derived.Deep.RegionHeld3
import Derived.Deep.RegionWith
import Derived.Test.YtignfbdgpgidpaaGreatDoorS05
import Derived.Test.YtignfbdgpgidpaaGreatDoorS12
/- The document's disk: Sync. -/
namespace Go.Proofs.YtignfbdgpgidpaaGreatDoor
open Go.RowKit FsPlain
set_option linter.unusedVariables false
set_option linter.unusedSimpArgs false
set_option maxRecDepth 20000
theorem rsync_bad (d : Nat) (nm : List UInt8) (w : World) (hn : rightB nm = false) (hl : nm.length ≤ 1000000) :
    Calls Tryz.prog 79 #[.pointer (some ⟨d, 0, none⟩), .string (bs nm)] w fun e w' => e = .returned (.int .i64 1) ∧ w = w' := by
  have C1 := rright_c (bs nm) (by rw [bs_size]; unfold maxLen; omega) w
  rw [rbs_list, hn] at C1
  have C2 := rcall_no d w
  go_enter Tryz.func79, Tryz.ntmps79
  go_wp2_with fail
  refine (C1).mono ?_; rintro e w2 ⟨rfl, rfl⟩
  go_wp2_with fail
  refine (C2).mono ?_; rintro e w2 ⟨rfl, rfl⟩
  go_wp2_with fail
  go_ret
  exact ⟨rfl, rfl⟩
set_option maxRecDepth 20000 in
set_option maxHeartbeats 4000000 in
theorem rsync_c (d : Nat) (s : St) (nm : List UInt8) (w : World) {B : Nat → Prop} (hd : RDisk w d s B) (hn : rightB nm = true) (hl : nm.length ≤ 24) (hc : s.calls ≤ 1000000000000) :
    Calls Tryz.prog 79 #[.pointer (some ⟨d, 0, none⟩), .string (bs nm)] w (RDone d B w (syncR s nm).1 (syncR s nm).2) := by
  obtain ⟨hok, hsort, v, h, hB⟩ := hd
  have HBB := Lib.hid hB
  clear hB
  have C1 := rright_c (bs nm) (by rw [bs_size]; unfold maxLen; omega) w
  rw [rbs_list, hn] at C1
  have C2 := rcall_yes d s v w h.1 hok.c0 hc hok.a0 hok.a1
  have hokc := ok_call hok
  have hm := hok.m
  have hr0 := hok.r0
  have hr1 := hok.r1
  have hu := hok.u
  have HOK := Lib.hid hok
  have HOKC := Lib.hid hokc
  have HS := Lib.hid hsort
  have H := Lib.hid h
  clear hok hokc hsort h
  unfold syncR
  cases hdn : s.call.down
  · rw [show s.call.code = 0 by unfold St.code; rw [hdn]; rfl] at C2
    have HDN := Lib.hid hdn
    clear hdn
    cases hg : s.get nm with
    | none =>
      have hp := place_of_none hg
      have HG := Lib.hid hg
      simp only [Bool.false_eq_true, if_false]
      clear hg
      go_enter Tryz.func79, Tryz.ntmps79
      go_wp2_with fail
      refine (C1).mono ?_; rintro e w2 ⟨rfl, rfl⟩
      go_wp2_with fail
      refine (C2).mono ?_; rintro e w2 ⟨rfl, hcd⟩
      have HA := Lib.hid (H.out.called hcd)
      have HO := Lib.hid hcd.2
      clear hcd
      go_wp2_with fail
      refine (rat_c d s.call nm v w2 (show s.fs.length ≤ 300 by omega) HA.out).mono ?_; rintro e w3 ⟨rfl, g3⟩
      rw [show placeF nm s.call.fs = -1 from hp]
      have HA3 := Lib.hid (HA.out.gr g3)
      have HO3 := Lib.hid (HO.out.trans (Only.ofGr g3))
      clear g3 hp
      go_wp2_with fail
      go_ret
      exact ⟨rfl, rd_keep HBB.out HOKC.out HS.out (HA3.out) (HO3.out)⟩
    | some f =>
      obtain ⟨k, hp, hat, hfn⟩ := place_of_some hg
      have hkl := (List.getElem?_eq_some_iff.1 hat).1
      have HG := Lib.hid hg
      simp only [Bool.false_eq_true, if_false]
      have HAT := Lib.hid hat
      clear hg hat
      go_enter Tryz.func79, Tryz.ntmps79
      go_wp2_with fail
      refine (C1).mono ?_; rintro e w2 ⟨rfl, rfl⟩
      go_wp2_with fail
      refine (C2).mono ?_; rintro e w2 ⟨rfl, hcd⟩
      have HA := Lib.hid (H.out.called hcd)
      have HO := Lib.hid hcd.2
      clear hcd
      go_wp2_with fail
      refine (rat_c d s.call nm v w2 (show s.fs.length ≤ 300 by omega) HA.out).mono ?_; rintro e w3 ⟨rfl, g3⟩
      rw [show placeF nm s.call.fs = (k : Int) from hp]
      have HA3 := Lib.hid (HA.out.gr g3)
      have HO3 := Lib.hid (HO.out.trans (Only.ofGr g3))
      clear g3 hp
      have HA4 := HA3
      have HO4 := HO3
      obtain ⟨w4, hw4⟩ : ∃ w4, w4 = w3 := ⟨_, rfl⟩
      rw [← hw4] at HA4 HO4 ⊢
      clear hw4 HA3 HO3
      have hfs : (bs f.data).size = f.data.length := bs_size _
      have hfu := used_le (List.mem_of_getElem? HAT.out)
      · skip
        obtain ⟨hh, ⟨h1, _⟩ | ⟨b, off, cc, rfl, hcc, hcell⟩⟩ := HA4.out
        · exfalso; rw [show s.call.fs = s.fs from rfl] at h1; rw [h1] at hkl; exact absurd hkl (by simp)
        have c1 : w4.cell? ⟨d, 1, none⟩ = some (.slice (some ⟨b, off, none⟩) s.fs.length cc) := by rw [cells_at hh]; rfl
        obtain ⟨q0, q1, q2⟩ := fall3_at s.fs k f HAT.out
        rw [Nat.mul_comm 3 k] at q0 q1 q2
        have y0 := hcell.2 _ _ q0
        have y1 := hcell.2 _ _ q1
        have y2 := hcell.2 _ _ q2
        rw [← Nat.add_assoc] at y1 y2
        have HCC := Lib.hid hcell
        clear hcell q0 q1 q2
        have CPUT : ∀ (l : List F) (u : Value) (x : World), l.length ≤ 300 → FLies x u l → Calls Tryz.prog 63 #[u, .agg #[.string (bs nm), .string (bs f.data), .int .i64 (f.data.length : Int)]] x fun e w' => ∃ v, e = .returned v ∧ FLies w' v (putF { f with kept := f.data.length } l) ∧ Gr x w' ∧ NewV x v := by
          intro l u x h1 h2
          rw [← hfn]
          exact put4_c { f with kept := f.data.length } l u x h1 h2
        have HP := Lib.hid CPUT
        have HHH := Lib.hid hh
        have hlo : (outF nm s.fs).length ≤ 300 := Nat.le_trans (List.length_filter_le _ _) (by omega)
        have hdl := blk_lt2 hh
        clear hh CPUT
        go_wp2_with fail
        obtain ⟨W, hW⟩ : ∃ W, W = w4.alloc (.cells #[.string (bs nm), .string (bs f.data), .int .i64 (f.data.length : Int)] 56 (0, 0)) := ⟨_, rfl⟩
        rw [← hW]
        have gW : Gr w4 W := by rw [hW]; exact Below.alloc (Below.refl _ _) (Nat.le_refl _) _
        have hx : W.heap[w4.heap.size]? = some (.cells #[.string (bs nm), .string (bs f.data), .int .i64 (f.data.length : Int)] 56 (0, 0)) := by rw [hW]; exact heap_alloc_new w4 _
        have x0 : W.cell? ⟨w4.heap.size, 0, none⟩ = some (.string (bs nm)) := by rw [heap_cell hx]; rfl
        have x1 : W.cell? ⟨w4.heap.size, 1, none⟩ = some (.string (bs f.data)) := by rw [heap_cell hx]; rfl
        have x2 : W.cell? ⟨w4.heap.size, 2, none⟩ = some (.int .i64 (f.data.length : Int)) := by rw [heap_cell hx]; rfl
        have hxl := blk_lt2 hx
        have HAW := Lib.hid ((show RAt w4 d s.call _ from ⟨HHH.out, .inr ⟨b, off, cc, rfl, hcc, HCC.out⟩⟩).gr gW)
        have HOW := Lib.hid (HO4.out.trans (Only.ofGr gW))
        have d1 : W.cell? ⟨d, 1, none⟩ = some (.slice (some ⟨b, off, none⟩) s.fs.length cc) := by rw [cells_at HAW.out.1]; rfl
        have hdW := blk_lt2 HAW.out.1
        have COUT := out_c nm s.fs (.slice (some ⟨b, off, none⟩) s.fs.length cc) W.drew (by omega) (show FLies W.drew _ s.fs from HAW.out.2)
        clear hW gW hx c1 y0 y1 y2
        go_region_with (first
          | (go_at_call 65; refine (COUT).mono ?_; rintro e w6 ⟨v6, rfl, hL6, g6, _⟩
             have z0 : w6.cell? ⟨w4.heap.size, 0, none⟩ = some (.string (bs nm)) := by rw [Below.cell g6 (p := ⟨w4.heap.size, 0, none⟩) hxl]; exact x0
             have z1 : w6.cell? ⟨w4.heap.size, 1, none⟩ = some (.string (bs f.data)) := by rw [Below.cell g6 (p := ⟨w4.heap.size, 1, none⟩) hxl]; exact x1
             have z2 : w6.cell? ⟨w4.heap.size, 2, none⟩ = some (.int .i64 (f.data.length : Int)) := by rw [Below.cell g6 (p := ⟨w4.heap.size, 2, none⟩) hxl]; exact x2
             have HL6 := Lib.hid hL6
             have HG6 := Lib.hid g6
             clear hL6 g6)
          | (go_at_call 63; refine (HP.out _ _ _ hlo HL6.out).mono ?_; rintro e w7 ⟨v7, rfl, hL7, g7, hNV⟩
             obtain ⟨a7, k7, rfl⟩ := hL7.slice
             obtain ⟨n7, hn7⟩ : ∃ n7, (putF { f with kept := f.data.length } (outF nm s.fs)).length = n7 := ⟨_, rfl⟩
             rw [hn7] at hL7 ⊢
             have G7 : Gr W w7 := (Gr.ofDrew HG6.out).trans g7
             have HA7 := Lib.hid (HAW.out.gr G7)
             have HO7 := Lib.hid (HOW.out.trans (Only.ofGr G7))
             have HL7 := Lib.hid hL7
             have e1 := cells_free HA7.out.1 1
             have e2 : w7.cell? ⟨d, 1, none⟩ = some (.slice (some ⟨b, off, none⟩) s.fs.length cc) := by rw [cells_at HA7.out.1]; rfl
             have HNV := Lib.hid hNV
             clear hL7 g7 G7 hNV))
        all_goals
          go_wp2_with fail
          go_ret
          have g8 : Only (fun i => i = d) w7 (w7.setCell ⟨d, 1, none⟩ (.slice a7 n7 k7)) := Only.cell1 _ _ _ _
          have hup := upd_put (s := s.call) HOKC.out HS.out (n := nm) (f := f) HG.out (fun f => { f with kept := f.data.length }) rfl
          have hoku := ok_upd (s := s.call) HOKC.out (n := nm) (f := f) HG.out (g := fun f => { f with kept := f.data.length }) rfl (Nat.le_refl _) (by show (used s.fs : Int) + (f.data.length : Int) ≤ s.room + f.data.length; omega)
          refine ⟨rfl, rd_new (v' := .slice a7 n7 k7) HBB.out hoku hup.2 ?_ (HO7.out.trans g8) (fun x hx => Nat.le_trans (Nat.le_trans HOW.out.size HG6.out.size) (HNV.out x ((own_len _ _ _ _).trans hx)))⟩
          refine HA7.out.put (s' := s.call.upd nm (fun f => { f with kept := f.data.length })) (by rw [← hup.1]; exact HL7.out) g8 ?_
          rw [cells_set HA7.out.1]; rfl
  · rw [show s.call.code = 5 by unfold St.code; rw [hdn]; rfl] at C2
    have HDN := Lib.hid hdn
    simp only [if_true]
    clear hdn
    go_enter Tryz.func79, Tryz.ntmps79
    go_wp2_with fail
    refine (C1).mono ?_; rintro e w2 ⟨rfl, rfl⟩
    go_wp2_with fail
    refine (C2).mono ?_; rintro e w2 ⟨rfl, hcd⟩
    have HC := Lib.hid hcd
    clear hcd
    go_wp2_with fail
    go_ret
    exact ⟨rfl, rd_keep HBB.out HOKC.out HS.out (H.out.called HC.out) (HC.out.2)⟩
end Go.Proofs.YtignfbdgpgidpaaGreatDoor
/- The document's disk: Remove. -/
namespace Go.Proofs.YtignfbdgpgidpaaGreatDoor
open Go.RowKit FsPlain
set_option linter.unusedVariables false
set_option linter.unusedSimpArgs false
set_option maxRecDepth 20000
theorem drop_out (s : St) (n : List UInt8) : (s.drop n).fs = outF n s.fs := by
  show s.fs.filter (fun f => !(f.name == n)) = s.fs.filter fun y => decide (y.name ≠ n)
  congr 1
  funext y
  by_cases h : y.name = n <;> simp [h]
theorem sort_outF {l : List F} {n : List UInt8} (h : SortF l) : SortF (outF n l) := h.sublist List.filter_sublist
set_option maxHeartbeats 2000000 in
theorem rremove_c (d : Nat) (s : St) (nm : List UInt8) (w : World) {B : Nat → Prop} (hd : RDisk w d s B) (hn : rightB nm = true) (hl : nm.length ≤ 24) (hc : s.calls ≤ 1000000000000) :
    Calls Tryz.prog 47 #[.pointer (some ⟨d, 0, none⟩), .string (bs nm)] w (RDone d B w (removeR s nm).1 (removeR s nm).2) := by
  obtain ⟨hok, hsort, v, h, hB⟩ := hd
  have HBB := Lib.hid hB
  clear hB
  have C1 := rright_c (bs nm) (by rw [bs_size]; unfold maxLen; omega) w
  rw [rbs_list, hn] at C1
  have C2 := rcall_yes d s v w h.1 hok.c0 hc hok.a0 hok.a1
  have hokc := ok_call hok
  have hm : s.call.fs.length ≤ 300 := by have := hok.m; show s.fs.length ≤ 300; omega
  have HOKC := Lib.hid hokc
  have HS := Lib.hid hsort
  have H := Lib.hid h
  clear hokc hok hsort h
  unfold removeR
  cases hdn : s.call.down
  · rw [show s.call.code = 0 by unfold St.code; rw [hdn]; rfl] at C2
    clear hdn
    have HH := Lib.hid (fun w2 (h : RAt w2 d s.call v) => rhas_c d s.call nm v w2 hm h)
    cases hg : s.get nm with
    | none =>
      have e0 : (s.call.get nm).isSome = false := by rw [show s.call.get nm = s.get nm from rfl, hg]; rfl
      rw [e0] at HH
      simp only [Bool.false_eq_true, if_false]
      clear hg e0
      go_enter Tryz.func47, Tryz.ntmps47
      go_wp2_with fail
      refine (C1).mono ?_; rintro e w2 ⟨rfl, rfl⟩
      go_wp2_with fail
      refine (C2).mono ?_; rintro e w2 ⟨rfl, hcd⟩
      have HA := Lib.hid (H.out.called hcd)
      have HO := Lib.hid hcd.2
      clear hcd
      go_wp2_with fail
      refine (HH.out w2 HA.out).mono ?_; rintro e w3 ⟨rfl, g3⟩
      have HA3 := Lib.hid (HA.out.gr g3)
      have HO3 := Lib.hid (HO.out.trans (Only.ofGr g3))
      clear g3
      go_wp2_with fail
      go_ret
      exact ⟨rfl, rd_keep HBB.out HOKC.out HS.out HA3.out HO3.out⟩
    | some f =>
      have e0 : (s.call.get nm).isSome = true := by rw [show s.call.get nm = s.get nm from rfl, hg]; rfl
      rw [e0] at HH
      have HM := Lib.hid hm
      simp only [Bool.false_eq_true, if_false]
      clear hg e0 hm
      go_enter Tryz.func47, Tryz.ntmps47
      go_wp2_with fail
      refine (C1).mono ?_; rintro e w2 ⟨rfl, rfl⟩
      go_wp2_with fail
      refine (C2).mono ?_; rintro e w2 ⟨rfl, hcd⟩
      have HA := Lib.hid (H.out.called hcd)
      have HO := Lib.hid hcd.2
      clear hcd
      go_wp2_with fail
      refine (HH.out w2 HA.out).mono ?_; rintro e w3 ⟨rfl, g3⟩
      have HA3 := Lib.hid (HA.out.gr g3)
      have HO3 := Lib.hid (HO.out.trans (Only.ofGr g3))
      obtain ⟨a, c, rfl⟩ := HA3.out.2.slice
      have c1 : w3.cell? ⟨d, 1, none⟩ = some (.slice a s.call.fs.length c) := by rw [cells_at HA3.out.1]; rfl
      have CO := Lib.hid (out_c nm s.call.fs (.slice a s.call.fs.length c) w3 HM.out HA3.out.2)
      clear g3
      go_wp2_with fail
      refine CO.out.mono ?_; rintro e w6 ⟨v6, rfl, hL6, g6, hNV⟩
      obtain ⟨a6, k6, rfl⟩ := hL6.slice
      have HA6 := HA3.out.gr g6
      have e1 := cells_free HA6.1 1
      have e2 : w6.cell? ⟨d, 1, none⟩ = some (.slice a s.call.fs.length c) := by rw [cells_at HA6.1]; rfl
      have g8 : Only (fun i => i = d) w6 (w6.setCell ⟨d, 1, none⟩ (.slice a6 (outF nm s.call.fs).length k6)) := Only.cell1 _ _ _ _
      have FIN := Lib.hid (rd_new (s' := s.call.drop nm) (v' := .slice a6 (outF nm s.call.fs).length k6) HBB.out (ok_drop HOKC.out nm) (by rw [drop_out]; exact sort_outF HS.out) (HA6.put (s' := s.call.drop nm) (by rw [drop_out]; exact hL6) g8 (by rw [cells_set HA6.1]; rfl)) ((HO3.out.trans (Only.ofGr g6)).trans g8) (fun x hx => Nat.le_trans (HO3.out.size) (hNV x hx)))
      obtain ⟨n6, hn6⟩ : ∃ n6, (outF nm s.call.fs).length = n6 := ⟨_, rfl⟩
      rw [hn6] at FIN ⊢
      clear HA6 g8 hL6 g6 hNV hn6
      go_wp2_with fail
      go_ret
      exact ⟨rfl, FIN.out⟩
  · rw [show s.call.code = 5 by unfold St.code; rw [hdn]; rfl] at C2
    simp only [if_true]
    clear hdn
    go_enter Tryz.func47, Tryz.ntmps47
    go_wp2_with fail
    refine (C1).mono ?_; rintro e w2 ⟨rfl, rfl⟩
    go_wp2_with fail
    refine (C2).mono ?_; rintro e w2 ⟨rfl, hcd⟩
    have HA := Lib.hid (H.out.called hcd)
    have HO := Lib.hid hcd.2
    clear hcd
    go_wp2_with fail
    go_ret
    exact ⟨rfl, rd_keep HBB.out HOKC.out HS.out HA.out HO.out⟩
theorem r_remove (d : Nat) (s : St) (n : ByteArray) (hn : n.size ≤ 24) (hm : rightB n.data.toList = true) (h1 : s.calls ≤ 1000000000000) (w : World) (B : Nat → Prop) (h : RDiskA d s w B) :
    Calls Tryz.prog 47 #[.pointer (some ⟨d, 0, none⟩), .string n] w (Does w B (RDiskA d (removeR s n.data.toList).1) (.int .i64 (removeR s n.data.toList).2)) := by
  have C := rremove_c d s n.data.toList w h hm (by rw [show n.data.toList.length = n.size from Array.length_toList]; exact hn) h1
  rwa [bs_toList] at C
end Go.Proofs.YtignfbdgpgidpaaGreatDoor
/- Both disks' List beside other parts; the document's has and Sweep. -/
namespace Go.Proofs.YtignfbdgpgidpaaGreatDoor
open Go.RowKit FsPlain ScPlain
set_option linter.unusedVariables false
set_option linter.unusedSimpArgs false
set_option maxRecDepth 20000
theorem plist_c (p : Nat) (s : St) (w : World) {B : Nat → Prop} (h : DiskA p s w B) (h1 : s.calls ≤ 1000000000000) :
    Calls Tryz.prog 24 #[.pointer (some ⟨p, 0, none⟩)] w (LsGot (DiskA p s.call) s B w) := by
  have hn : listN s = namesL s := by
    obtain ⟨_, m, L, hD⟩ := id h
    unfold listN namesL
    have h1 := hD.sorted
    have h2 : (L.map fun x => x.f.name) = s.fs.map fun f => f.name := by rw [← hD.fs, List.map_map]; rfl
    rw [h2] at h1
    rw [h1, List.map_map]
    rfl
  refine (list18_c p s B w h h1).mono ?_
  rintro e w' (⟨hdn, rfl, B1, hd, ho, hnw⟩ | ⟨hdn, v, rfl, B', hst, n⟩)
  · exact ls_down (T := DiskA p s.call) hdn hd ⟨ho, hnw⟩
  · rw [hn] at hst
    have e : listL s = namesL s := by unfold listL; rw [hdn]; rfl
    have ec : s.call.code = 0 := by rw [code_down, hdn]; rfl
    have hst2 := star_swap hst
    obtain ⟨B1, B2, hr, hd, a, eb⟩ := hst2
    have hl := row_lies hr
    obtain ⟨va, vc, rfl, _⟩ := id hl
    refine ⟨va, vc, by rw [e, ec], B', ⟨B1, B2, ?_, hd, a, eb⟩, n⟩
    rw [e]
    refine ⟨hl, hr.2.2, ?_⟩
    obtain ⟨_, _, e2, _, k⟩ := id hl
    rcases k with k | ⟨b, o, e3, _⟩
    · exact .inl k
    · simp only [Value.slice.injEq] at e2
      refine .inr ⟨b, o, _, _, by rw [e2.1, e3], hr.2.1 b (by rw [e2.1, e3]; rfl)⟩
theorem ps_list {F : FuncId} {args : Array Value} {A : Nat → Prop} {P T : Asn} {L : List Asn} {s : St} {w u : World} (h : Qs A (P :: L) w u) (hT : Fr T) (C : ∀ B1, P u B1 → Calls Tryz.prog F args u (LsGot T s B1 u)) :
    Calls Tryz.prog F args u fun e w' => ∃ (a : Option Addr) (c : Nat), e = .returned (.tuple #[.slice a (listL s).length c, .int .i64 s.call.code]) ∧ Qs A (T :: (L ++ [SlA (.slice a (listL s).length c) (listL s)])) w w' := by
  obtain ⟨hF, B, ⟨B1, B2, p, r, a, e⟩, n⟩ := h
  refine (C B1 p).mono ?_
  rintro e' w' ⟨a', c, rfl, B', q, n1⟩
  refine ⟨a', c, rfl, ?_⟩
  obtain ⟨B3, h3, n3⟩ := star_of (fr_stars hF.2) r a e q n1
  refine Qs.perm (L := SlA (.slice a' (listL s).length c) (listL s) :: T :: L) ⟨⟨fr_sl _ _, hT, hF.2⟩, B3, star_left h3, n.trans n3⟩ ?_
  exact (List.Perm.swap _ _ _).trans (List.Perm.cons _ (List.perm_append_singleton _ _).symm)
end Go.Proofs.YtignfbdgpgidpaaGreatDoor
