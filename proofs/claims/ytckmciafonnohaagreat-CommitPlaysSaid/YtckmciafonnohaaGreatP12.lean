/- In one text: RfsRead, RfsSync. -/
import Derived.Test.YtckmciafonnohaaGreatP11
import Derived.Deep.RegionLaw
import Derived.Deep.RegionHeld3
import Derived.Deep.RegionWith
/- The document's disk: Size, Read. -/
namespace Go.Proofs.YtckmciafonnohaaGreat
open Go.RowKit FsPlain
set_option linter.unusedVariables false
set_option linter.unusedSimpArgs false
set_option maxRecDepth 20000
theorem bs_cut (l : List UInt8) (i k : Nat) : (bs l).extract i (i + k) = bs ((l.drop i).take k) := by
  unfold bs
  apply ByteArray.ext
  simp [ByteArray.data_extract]
set_option maxHeartbeats 2000000 in
theorem rsize_c (d : Nat) (s : St) (nm : List UInt8) (w : World) {B : Nat → Prop} (hd : RDisk w d s B) (hn : rightB nm = true) (hl : nm.length ≤ 24) (hc : s.calls ≤ 1000000000000) :
    Calls Tryz.prog 39 #[.pointer (some ⟨d, 0, none⟩), .string (bs nm)] w (Does w B (RDiskA d s.call) (.tuple #[.int .i64 (sizeR s nm).1, .int .i64 (sizeR s nm).2])) := by
  obtain ⟨hok, hsort, v, h, hB⟩ := hd
  have HBB := Lib.hid hB
  clear hB
  have C1 := rright_c (bs nm) (by rw [bs_size]; unfold maxLen; omega) w
  rw [rbs_list, hn] at C1
  have C2 := rcall_yes d s v w h.1 hok.c0 hc hok.a0 hok.a1
  have hokc := ok_call hok
  have hm : s.call.fs.length ≤ 300 := by have := hok.m; show s.fs.length ≤ 300; omega
  have HOKC := Lib.hid hokc
  have HS := Lib.hid hsort
  have H := Lib.hid h
  clear hokc hok hsort h
  unfold sizeR
  cases hdn : s.call.down
  · rw [show s.call.code = 0 by unfold St.code; rw [hdn]; rfl] at C2
    clear hdn
    have HH := Lib.hid (fun w2 (h : RAt w2 d s.call v) => rhas_c d s.call nm v w2 hm h)
    cases hg : s.get nm with
    | none =>
      have e0 : (s.call.get nm).isSome = false := by rw [show s.call.get nm = s.get nm from rfl, hg]; rfl
      rw [e0] at HH
      simp only [Bool.false_eq_true, if_false]
      clear hg e0
      go_enter Tryz.func39, Tryz.ntmps39
      go_wp2_with fail
      refine (C1).mono ?_; rintro e w2 ⟨rfl, rfl⟩
      go_wp2_with fail
      refine (C2).mono ?_; rintro e w2 ⟨rfl, hcd⟩
      have HA := Lib.hid (H.out.called hcd)
      have HO := Lib.hid hcd.2
      clear hcd
      go_wp2_with fail
      refine (HH.out w2 HA.out).mono ?_; rintro e w3 ⟨rfl, g3⟩
      have HA3 := Lib.hid (HA.out.gr g3)
      have HO3 := Lib.hid (HO.out.trans (Only.ofGr g3))
      clear g3
      go_wp2_with fail
      go_ret2
      exact ⟨rfl, rd_keep HBB.out HOKC.out HS.out HA3.out HO3.out⟩
    | some f =>
      have e0 : (s.call.get nm).isSome = true := by rw [show s.call.get nm = s.get nm from rfl, hg]; rfl
      rw [e0] at HH
      have HW := Lib.hid (fun w2 (h : RAt w2 d s.call v) => rwhole_some d s.call nm v w2 hm h (f := f) hg)
      have hfs : (bs f.data).size = f.data.length := bs_size _
      simp only [Bool.false_eq_true, if_false]
      clear hg e0
      go_enter Tryz.func39, Tryz.ntmps39
      go_wp2_with fail
      refine (C1).mono ?_; rintro e w2 ⟨rfl, rfl⟩
      go_wp2_with fail
      refine (C2).mono ?_; rintro e w2 ⟨rfl, hcd⟩
      have HA := Lib.hid (H.out.called hcd)
      have HO := Lib.hid hcd.2
      clear hcd
      go_wp2_with fail
      refine (HH.out w2 HA.out).mono ?_; rintro e w3 ⟨rfl, g3⟩
      have HA3 := Lib.hid (HA.out.gr g3)
      have HO3 := Lib.hid (HO.out.trans (Only.ofGr g3))
      clear g3
      go_wp2_with fail
      refine (HW.out w3 HA3.out).mono ?_; rintro e w4 ⟨rfl, g4⟩
      have HA4 := Lib.hid (HA3.out.gr g4)
      have HO4 := Lib.hid (HO3.out.trans (Only.ofGr g4))
      clear g4
      go_wp2_with fail
      go_ret2
      refine ⟨by first | rfl | simp [hfs], rd_keep HBB.out HOKC.out HS.out HA4.out HO4.out⟩
  · rw [show s.call.code = 5 by unfold St.code; rw [hdn]; rfl] at C2
    simp only [if_true]
    clear hdn
    go_enter Tryz.func39, Tryz.ntmps39
    go_wp2_with fail
    refine (C1).mono ?_; rintro e w2 ⟨rfl, rfl⟩
    go_wp2_with fail
    refine (C2).mono ?_; rintro e w2 ⟨rfl, hcd⟩
    have HA := Lib.hid (H.out.called hcd)
    have HO := Lib.hid hcd.2
    clear hcd
    go_wp2_with fail
    go_ret2
    exact ⟨rfl, rd_keep HBB.out HOKC.out HS.out HA.out HO.out⟩
set_option maxHeartbeats 2000000 in
theorem rread_c (d : Nat) (s : St) (nm : List UInt8) (i k : Nat) (w : World) {B : Nat → Prop} (hd : RDisk w d s B) (hn : rightB nm = true) (hl : nm.length ≤ 24) (hc : s.calls ≤ 1000000000000) (hi : i ≤ 1000000000) (hk : k ≤ 1000000000) :
    Calls Tryz.prog 46 #[.pointer (some ⟨d, 0, none⟩), .string (bs nm), .int .i64 (i : Int), .int .i64 (k : Int)] w (Does w B (RDiskA d s.call) (.tuple #[.string (bs (readR s nm i k).1), .int .i64 (readR s nm i k).2])) := by
  obtain ⟨hok, hsort, v, h, hB⟩ := hd
  have HBB := Lib.hid hB
  clear hB
  have C1 := rright_c (bs nm) (by rw [bs_size]; unfold maxLen; omega) w
  rw [rbs_list, hn] at C1
  have C2 := rcall_yes d s v w h.1 hok.c0 hc hok.a0 hok.a1
  have hokc := ok_call hok
  have hm : s.call.fs.length ≤ 300 := by have := hok.m; show s.fs.length ≤ 300; omega
  have HOKC := Lib.hid hokc
  have HS := Lib.hid hsort
  have H := Lib.hid h
  clear hokc hok hsort h
  have hi0 : (0 : Int) ≤ (i : Int) := by omega
  have hk0 : (0 : Int) ≤ (k : Int) := by omega
  unfold readR
  cases hdn : s.call.down
  · rw [show s.call.code = 0 by unfold St.code; rw [hdn]; rfl] at C2
    clear hdn
    have HT := Lib.hid (fun w2 (h : RAt w2 d s.call v) => rat_c d s.call nm v w2 hm h)
    cases hg : s.get nm with
    | none =>
      have e0 : placeF nm s.call.fs = -1 := place_of_none hg
      rw [e0] at HT
      simp only [Bool.false_eq_true, if_false]
      clear hg e0
      go_enter Tryz.func46, Tryz.ntmps46
      go_wp2_with fail
      refine (C1).mono ?_; rintro e w2 ⟨rfl, rfl⟩
      go_wp2_with fail
      refine (C2).mono ?_; rintro e w2 ⟨rfl, hcd⟩
      have HA := Lib.hid (H.out.called hcd)
      have HO := Lib.hid hcd.2
      clear hcd
      go_wp2_with fail
      refine (HT.out w2 HA.out).mono ?_; rintro e w3 ⟨rfl, g3⟩
      have HA3 := Lib.hid (HA.out.gr g3)
      have HO3 := Lib.hid (HO.out.trans (Only.ofGr g3))
      clear g3
      go_wp2_with fail
      go_ret2
      exact ⟨rfl, rd_keep HBB.out HOKC.out HS.out HA3.out HO3.out⟩
    | some f =>
      obtain ⟨j, hp, hat, hfn⟩ := place_of_some hg
      have hjl := (List.getElem?_eq_some_iff.1 hat).1
      have e0 : placeF nm s.call.fs = (j : Int) := hp
      rw [e0] at HT
      have hfs : (bs f.data).size = f.data.length := bs_size _
      have hfl : f.data.length ≤ 16777216 := by have := used_le (List.mem_of_getElem? hat); have := HOKC.out.u; have := HOKC.out.r1; have e : s.call.room = s.room := rfl; have e2 : used s.call.fs = used s.fs := rfl; omega
      have HAT := Lib.hid hat
      have hjm : s.fs.length ≤ 300 := hm
      simp only [Bool.false_eq_true, if_false]
      obtain ⟨R, hR⟩ : ∃ R, (if f.data.length < i + k then (([] : List UInt8), (10 : Int)) else ((f.data.drop i).take k, 0)) = R := ⟨_, rfl⟩
      rw [hR]
      have HR := Lib.hid hR
      clear hg e0 hp hat hR
      go_enter Tryz.func46, Tryz.ntmps46
      go_wp2_with fail
      refine (C1).mono ?_; rintro e w2 ⟨rfl, rfl⟩
      go_wp2_with fail
      refine (C2).mono ?_; rintro e w2 ⟨rfl, hcd⟩
      have HA := Lib.hid (H.out.called hcd)
      have HO := Lib.hid hcd.2
      clear hcd
      go_wp2_with fail
      refine (HT.out w2 HA.out).mono ?_; rintro e w3 ⟨rfl, g3⟩
      have HA3 := Lib.hid (HA.out.gr g3)
      have HO3 := Lib.hid (HO.out.trans (Only.ofGr g3))
      obtain ⟨hh, ⟨h1, _⟩ | ⟨b, off, cc, rfl, hcc, hcell⟩⟩ := HA3.out
      · exfalso; rw [show s.call.fs = s.fs from rfl] at h1; rw [h1] at hjl; exact absurd hjl (by simp)
      obtain ⟨q0, q1, q2⟩ := fall3_at s.fs j f HAT.out
      rw [Nat.mul_comm 3 j] at q1
      have y1 := hcell.2 _ _ q1
      rw [← Nat.add_assoc] at y1
      have hcc' : s.fs.length ≤ cc := hcc
      have c1 : w3.cell? ⟨d, 1, none⟩ = some (.slice (some ⟨b, off, none⟩) s.fs.length cc) := by rw [cells_at hh]; rfl
      have hj0 : (0 : Int) ≤ (j : Int) := by omega
      have hj1 : (j : Int) < (s.fs.length : Int) := by omega
      clear g3 hh hcell q0 q1 q2
      by_cases hr : f.data.length < i + k
      · have hR := HR.out
        rw [if_pos hr] at hR
        subst hR
        by_cases hr1 : (f.data.length : Int) < (i : Int)
        · go_wp2_with fail
          go_ret2
          exact ⟨rfl, rd_keep HBB.out HOKC.out HS.out HA3.out HO3.out⟩
        · have hr2 : (f.data.length : Int) - (i : Int) < (k : Int) := by omega
          go_wp2_with fail
          go_ret2
          exact ⟨rfl, rd_keep HBB.out HOKC.out HS.out HA3.out HO3.out⟩
      · have hR := HR.out
        rw [if_neg hr] at hR
        have hrs : (bs R.1).size = k := by rw [bs_size, ← hR]; simp; omega
        have HRR := Lib.hid hR
        clear hR
        have hr1 : ¬ (f.data.length : Int) < (i : Int) := by omega
        have hr2 : ¬ (f.data.length : Int) - (i : Int) < (k : Int) := by omega
        have hr3 : (i : Int) + (k : Int) ≤ (f.data.length : Int) := by omega
        go_wp2_with fail
        have hx : (bs f.data).extract i (i + k) = bs R.1 := by rw [← HRR.out]; exact bs_cut f.data i k
        have h2 : R.2 = 0 := by rw [← HRR.out]
        rw [hx, h2]
        go_ret2
        exact ⟨rfl, rd_keep HBB.out HOKC.out HS.out HA3.out HO3.out⟩
  · rw [show s.call.code = 5 by unfold St.code; rw [hdn]; rfl] at C2
    simp only [if_true]
    clear hdn
    go_enter Tryz.func46, Tryz.ntmps46
    go_wp2_with fail
    refine (C1).mono ?_; rintro e w2 ⟨rfl, rfl⟩
    go_wp2_with fail
    refine (C2).mono ?_; rintro e w2 ⟨rfl, hcd⟩
    have HA := Lib.hid (H.out.called hcd)
    have HO := Lib.hid hcd.2
    clear hcd
    go_wp2_with fail
    go_ret2
    exact ⟨rfl, rd_keep HBB.out HOKC.out HS.out HA.out HO.out⟩
theorem r_size (d : Nat) (s : St) (n : ByteArray) (hn : n.size ≤ 24) (hm : rightB n.data.toList = true) (h1 : s.calls ≤ 1000000000000) (w : World) (B : Nat → Prop) (h : RDiskA d s w B) :
    Calls Tryz.prog 39 #[.pointer (some ⟨d, 0, none⟩), .string n] w (Does w B (RDiskA d s.call) (.tuple #[.int .i64 (sizeR s n.data.toList).1, .int .i64 (sizeR s n.data.toList).2])) := by
  have C := rsize_c d s n.data.toList w h hm (by rw [show n.data.toList.length = n.size from Array.length_toList]; exact hn) h1
  rwa [bs_toList] at C
theorem r_read (d : Nat) (s : St) (n : ByteArray) (i k : Nat) (hn : n.size ≤ 24) (hm : rightB n.data.toList = true) (h1 : s.calls ≤ 1000000000000) (hi : i ≤ 1000000000) (hk : k ≤ 1000000000) (w : World) (B : Nat → Prop) (h : RDiskA d s w B) :
    Calls Tryz.prog 46 #[.pointer (some ⟨d, 0, none⟩), .string n, .int .i64 (i : Int), .int .i64 (k : Int)] w (Does w B (RDiskA d s.call) (.tuple #[.string (bs (readR s n.data.toList i k).1), .int .i64 (readR s n.data.toList i k).2])) := by
  have C := rread_c d s n.data.toList i k w h hm (by rw [show n.data.toList.length = n.size from Array.length_toList]; exact hn) h1 hi hk
  rwa [bs_toList] at C
end Go.Proofs.YtckmciafonnohaaGreat
/- The document's disk: Sync. -/
namespace Go.Proofs.YtckmciafonnohaaGreat
open Go.RowKit FsPlain
set_option linter.unusedVariables false
set_option linter.unusedSimpArgs false
set_option maxRecDepth 20000
theorem rsync_bad (d : Nat) (nm : List UInt8) (w : World) (hn : rightB nm = false) (hl : nm.length ≤ 1000000) :
    Calls Tryz.prog 41 #[.pointer (some ⟨d, 0, none⟩), .string (bs nm)] w fun e w' => e = .returned (.int .i64 1) ∧ w = w' := by
  have C1 := rright_c (bs nm) (by rw [bs_size]; unfold maxLen; omega) w
  rw [rbs_list, hn] at C1
  have C2 := rcall_no d w
  go_enter Tryz.func41, Tryz.ntmps41
  go_wp2_with fail
  refine (C1).mono ?_; rintro e w2 ⟨rfl, rfl⟩
  go_wp2_with fail
  refine (C2).mono ?_; rintro e w2 ⟨rfl, rfl⟩
  go_wp2_with fail
  go_ret
  exact ⟨rfl, rfl⟩
set_option maxRecDepth 20000 in
set_option maxHeartbeats 4000000 in
theorem rsync_c (d : Nat) (s : St) (nm : List UInt8) (w : World) {B : Nat → Prop} (hd : RDisk w d s B) (hn : rightB nm = true) (hl : nm.length ≤ 24) (hc : s.calls ≤ 1000000000000) :
    Calls Tryz.prog 41 #[.pointer (some ⟨d, 0, none⟩), .string (bs nm)] w (RDone d B w (syncR s nm).1 (syncR s nm).2) := by
  obtain ⟨hok, hsort, v, h, hB⟩ := hd
  have HBB := Lib.hid hB
  clear hB
  have C1 := rright_c (bs nm) (by rw [bs_size]; unfold maxLen; omega) w
  rw [rbs_list, hn] at C1
  have C2 := rcall_yes d s v w h.1 hok.c0 hc hok.a0 hok.a1
  have hokc := ok_call hok
  have hm := hok.m
  have hr0 := hok.r0
  have hr1 := hok.r1
  have hu := hok.u
  have HOK := Lib.hid hok
  have HOKC := Lib.hid hokc
  have HS := Lib.hid hsort
  have H := Lib.hid h
  clear hok hokc hsort h
  unfold syncR
  cases hdn : s.call.down
  · rw [show s.call.code = 0 by unfold St.code; rw [hdn]; rfl] at C2
    have HDN := Lib.hid hdn
    clear hdn
    cases hg : s.get nm with
    | none =>
      have hp := place_of_none hg
      have HG := Lib.hid hg
      simp only [Bool.false_eq_true, if_false]
      clear hg
      go_enter Tryz.func41, Tryz.ntmps41
      go_wp2_with fail
      refine (C1).mono ?_; rintro e w2 ⟨rfl, rfl⟩
      go_wp2_with fail
      refine (C2).mono ?_; rintro e w2 ⟨rfl, hcd⟩
      have HA := Lib.hid (H.out.called hcd)
      have HO := Lib.hid hcd.2
      clear hcd
      go_wp2_with fail
      refine (rat_c d s.call nm v w2 (show s.fs.length ≤ 300 by omega) HA.out).mono ?_; rintro e w3 ⟨rfl, g3⟩
      rw [show placeF nm s.call.fs = -1 from hp]
      have HA3 := Lib.hid (HA.out.gr g3)
      have HO3 := Lib.hid (HO.out.trans (Only.ofGr g3))
      clear g3 hp
      go_wp2_with fail
      go_ret
      exact ⟨rfl, rd_keep HBB.out HOKC.out HS.out (HA3.out) (HO3.out)⟩
    | some f =>
      obtain ⟨k, hp, hat, hfn⟩ := place_of_some hg
      have hkl := (List.getElem?_eq_some_iff.1 hat).1
      have HG := Lib.hid hg
      simp only [Bool.false_eq_true, if_false]
      have HAT := Lib.hid hat
      clear hg hat
      go_enter Tryz.func41, Tryz.ntmps41
      go_wp2_with fail
      refine (C1).mono ?_; rintro e w2 ⟨rfl, rfl⟩
      go_wp2_with fail
      refine (C2).mono ?_; rintro e w2 ⟨rfl, hcd⟩
      have HA := Lib.hid (H.out.called hcd)
      have HO := Lib.hid hcd.2
      clear hcd
      go_wp2_with fail
      refine (rat_c d s.call nm v w2 (show s.fs.length ≤ 300 by omega) HA.out).mono ?_; rintro e w3 ⟨rfl, g3⟩
      rw [show placeF nm s.call.fs = (k : Int) from hp]
      have HA3 := Lib.hid (HA.out.gr g3)
      have HO3 := Lib.hid (HO.out.trans (Only.ofGr g3))
      clear g3 hp
      have HA4 := HA3
      have HO4 := HO3
      obtain ⟨w4, hw4⟩ : ∃ w4, w4 = w3 := ⟨_, rfl⟩
      rw [← hw4] at HA4 HO4 ⊢
      clear hw4 HA3 HO3
      have hfs : (bs f.data).size = f.data.length := bs_size _
      have hfu := used_le (List.mem_of_getElem? HAT.out)
      · skip
        obtain ⟨hh, ⟨h1, _⟩ | ⟨b, off, cc, rfl, hcc, hcell⟩⟩ := HA4.out
        · exfalso; rw [show s.call.fs = s.fs from rfl] at h1; rw [h1] at hkl; exact absurd hkl (by simp)
        have c1 : w4.cell? ⟨d, 1, none⟩ = some (.slice (some ⟨b, off, none⟩) s.fs.length cc) := by rw [cells_at hh]; rfl
        obtain ⟨q0, q1, q2⟩ := fall3_at s.fs k f HAT.out
        rw [Nat.mul_comm 3 k] at q0 q1 q2
        have y0 := hcell.2 _ _ q0
        have y1 := hcell.2 _ _ q1
        have y2 := hcell.2 _ _ q2
        rw [← Nat.add_assoc] at y1 y2
        have HCC := Lib.hid hcell
        clear hcell q0 q1 q2
        have CPUT : ∀ (l : List F) (u : Value) (x : World), l.length ≤ 300 → FLies x u l → Calls Tryz.prog 31 #[u, .agg #[.string (bs nm), .string (bs f.data), .int .i64 (f.data.length : Int)]] x fun e w' => ∃ v, e = .returned v ∧ FLies w' v (putF { f with kept := f.data.length } l) ∧ Gr x w' ∧ NewV x v := by
          intro l u x h1 h2
          rw [← hfn]
          exact put4_c { f with kept := f.data.length } l u x h1 h2
        have HP := Lib.hid CPUT
        have HHH := Lib.hid hh
        have hlo : (outF nm s.fs).length ≤ 300 := Nat.le_trans (List.length_filter_le _ _) (by omega)
        have hdl := blk_lt2 hh
        clear hh CPUT
        go_wp2_with fail
        obtain ⟨W, hW⟩ : ∃ W, W = w4.alloc (.cells #[.string (bs nm), .string (bs f.data), .int .i64 (f.data.length : Int)] 65 (0, 0)) := ⟨_, rfl⟩
        rw [← hW]
        have gW : Gr w4 W := by rw [hW]; exact Below.alloc (Below.refl _ _) (Nat.le_refl _) _
        have hx : W.heap[w4.heap.size]? = some (.cells #[.string (bs nm), .string (bs f.data), .int .i64 (f.data.length : Int)] 65 (0, 0)) := by rw [hW]; exact heap_alloc_new w4 _
        have x0 : W.cell? ⟨w4.heap.size, 0, none⟩ = some (.string (bs nm)) := by rw [heap_cell hx]; rfl
        have x1 : W.cell? ⟨w4.heap.size, 1, none⟩ = some (.string (bs f.data)) := by rw [heap_cell hx]; rfl
        have x2 : W.cell? ⟨w4.heap.size, 2, none⟩ = some (.int .i64 (f.data.length : Int)) := by rw [heap_cell hx]; rfl
        have hxl := blk_lt2 hx
        have HAW := Lib.hid ((show RAt w4 d s.call _ from ⟨HHH.out, .inr ⟨b, off, cc, rfl, hcc, HCC.out⟩⟩).gr gW)
        have HOW := Lib.hid (HO4.out.trans (Only.ofGr gW))
        have d1 : W.cell? ⟨d, 1, none⟩ = some (.slice (some ⟨b, off, none⟩) s.fs.length cc) := by rw [cells_at HAW.out.1]; rfl
        have hdW := blk_lt2 HAW.out.1
        have COUT := out_c nm s.fs (.slice (some ⟨b, off, none⟩) s.fs.length cc) W.drew (by omega) (show FLies W.drew _ s.fs from HAW.out.2)
        clear hW gW hx c1 y0 y1 y2
        go_region_with (first
          | (go_at_call 34; refine (COUT).mono ?_; rintro e w6 ⟨v6, rfl, hL6, g6, _⟩
             have z0 : w6.cell? ⟨w4.heap.size, 0, none⟩ = some (.string (bs nm)) := by rw [Below.cell g6 (p := ⟨w4.heap.size, 0, none⟩) hxl]; exact x0
             have z1 : w6.cell? ⟨w4.heap.size, 1, none⟩ = some (.string (bs f.data)) := by rw [Below.cell g6 (p := ⟨w4.heap.size, 1, none⟩) hxl]; exact x1
             have z2 : w6.cell? ⟨w4.heap.size, 2, none⟩ = some (.int .i64 (f.data.length : Int)) := by rw [Below.cell g6 (p := ⟨w4.heap.size, 2, none⟩) hxl]; exact x2
             have HL6 := Lib.hid hL6
             have HG6 := Lib.hid g6
             clear hL6 g6)
          | (go_at_call 31; refine (HP.out _ _ _ hlo HL6.out).mono ?_; rintro e w7 ⟨v7, rfl, hL7, g7, hNV⟩
             obtain ⟨a7, k7, rfl⟩ := hL7.slice
             obtain ⟨n7, hn7⟩ : ∃ n7, (putF { f with kept := f.data.length } (outF nm s.fs)).length = n7 := ⟨_, rfl⟩
             rw [hn7] at hL7 ⊢
             have G7 : Gr W w7 := (Gr.ofDrew HG6.out).trans g7
             have HA7 := Lib.hid (HAW.out.gr G7)
             have HO7 := Lib.hid (HOW.out.trans (Only.ofGr G7))
             have HL7 := Lib.hid hL7
             have e1 := cells_free HA7.out.1 1
             have e2 : w7.cell? ⟨d, 1, none⟩ = some (.slice (some ⟨b, off, none⟩) s.fs.length cc) := by rw [cells_at HA7.out.1]; rfl
             have HNV := Lib.hid hNV
             clear hL7 g7 G7 hNV))
        all_goals
          go_wp2_with fail
          go_ret
          have g8 : Only (fun i => i = d) w7 (w7.setCell ⟨d, 1, none⟩ (.slice a7 n7 k7)) := Only.cell1 _ _ _ _
          have hup := upd_put (s := s.call) HOKC.out HS.out (n := nm) (f := f) HG.out (fun f => { f with kept := f.data.length }) rfl
          have hoku := ok_upd (s := s.call) HOKC.out (n := nm) (f := f) HG.out (g := fun f => { f with kept := f.data.length }) rfl (Nat.le_refl _) (by show (used s.fs : Int) + (f.data.length : Int) ≤ s.room + f.data.length; omega)
          refine ⟨rfl, rd_new (v' := .slice a7 n7 k7) HBB.out hoku hup.2 ?_ (HO7.out.trans g8) (fun x hx => Nat.le_trans (Nat.le_trans HOW.out.size HG6.out.size) (HNV.out x ((own_len _ _ _ _).trans hx)))⟩
          refine HA7.out.put (s' := s.call.upd nm (fun f => { f with kept := f.data.length })) (by rw [← hup.1]; exact HL7.out) g8 ?_
          rw [cells_set HA7.out.1]; rfl
  · rw [show s.call.code = 5 by unfold St.code; rw [hdn]; rfl] at C2
    have HDN := Lib.hid hdn
    simp only [if_true]
    clear hdn
    go_enter Tryz.func41, Tryz.ntmps41
    go_wp2_with fail
    refine (C1).mono ?_; rintro e w2 ⟨rfl, rfl⟩
    go_wp2_with fail
    refine (C2).mono ?_; rintro e w2 ⟨rfl, hcd⟩
    have HC := Lib.hid hcd
    clear hcd
    go_wp2_with fail
    go_ret
    exact ⟨rfl, rd_keep HBB.out HOKC.out HS.out (H.out.called HC.out) (HC.out.2)⟩
end Go.Proofs.YtckmciafonnohaaGreat
