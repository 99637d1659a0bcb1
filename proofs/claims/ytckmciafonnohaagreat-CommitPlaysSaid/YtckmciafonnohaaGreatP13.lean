/- In one text: RfsRemove, RfsRename, RfsRise. -/
import Derived.Test.YtckmciafonnohaaGreatP12
import Derived.Test.YtckmciafonnohaaGreatP05
import Derived.Test.YtckmciafonnohaaGreatP06
import Derived.Test.YtckmciafonnohaaGreatP11
/- The document's disk: Remove. -/
namespace Go.Proofs.YtckmciafonnohaaGreat
open Go.RowKit FsPlain
set_option linter.unusedVariables false
set_option linter.unusedSimpArgs false
set_option maxRecDepth 20000
theorem drop_out (s : St) (n : List UInt8) : (s.drop n).fs = outF n s.fs := by
  show s.fs.filter (fun f => !(f.name == n)) = s.fs.filter fun y => decide (y.name ≠ n)
  congr 1
  funext y
  by_cases h : y.name = n <;> simp [h]
theorem sort_outF {l : List F} {n : List UInt8} (h : SortF l) : SortF (outF n l) := h.sublist List.filter_sublist
set_option maxHeartbeats 2000000 in
theorem rremove_c (d : Nat) (s : St) (nm : List UInt8) (w : World) {B : Nat → Prop} (hd : RDisk w d s B) (hn : rightB nm = true) (hl : nm.length ≤ 24) (hc : s.calls ≤ 1000000000000) :
    Calls Tryz.prog 40 #[.pointer (some ⟨d, 0, none⟩), .string (bs nm)] w (RDone d B w (removeR s nm).1 (removeR s nm).2) := by
  obtain ⟨hok, hsort, v, h, hB⟩ := hd
  have HBB := Lib.hid hB
  clear hB
  have C1 := rright_c (bs nm) (by rw [bs_size]; unfold maxLen; omega) w
  rw [rbs_list, hn] at C1
  have C2 := rcall_yes d s v w h.1 hok.c0 hc hok.a0 hok.a1
  have hokc := ok_call hok
  have hm : s.call.fs.length ≤ 300 := by have := hok.m; show s.fs.length ≤ 300; omega
  have HOKC := Lib.hid hokc
  have HS := Lib.hid hsort
  have H := Lib.hid h
  clear hokc hok hsort h
  unfold removeR
  cases hdn : s.call.down
  · rw [show s.call.code = 0 by unfold St.code; rw [hdn]; rfl] at C2
    clear hdn
    have HH := Lib.hid (fun w2 (h : RAt w2 d s.call v) => rhas_c d s.call nm v w2 hm h)
    cases hg : s.get nm with
    | none =>
      have e0 : (s.call.get nm).isSome = false := by rw [show s.call.get nm = s.get nm from rfl, hg]; rfl
      rw [e0] at HH
      simp only [Bool.false_eq_true, if_false]
      clear hg e0
      go_enter Tryz.func40, Tryz.ntmps40
      go_wp2_with fail
      refine (C1).mono ?_; rintro e w2 ⟨rfl, rfl⟩
      go_wp2_with fail
      refine (C2).mono ?_; rintro e w2 ⟨rfl, hcd⟩
      have HA := Lib.hid (H.out.called hcd)
      have HO := Lib.hid hcd.2
      clear hcd
      go_wp2_with fail
      refine (HH.out w2 HA.out).mono ?_; rintro e w3 ⟨rfl, g3⟩
      have HA3 := Lib.hid (HA.out.gr g3)
      have HO3 := Lib.hid (HO.out.trans (Only.ofGr g3))
      clear g3
      go_wp2_with fail
      go_ret
      exact ⟨rfl, rd_keep HBB.out HOKC.out HS.out HA3.out HO3.out⟩
    | some f =>
      have e0 : (s.call.get nm).isSome = true := by rw [show s.call.get nm = s.get nm from rfl, hg]; rfl
      rw [e0] at HH
      have HM := Lib.hid hm
      simp only [Bool.false_eq_true, if_false]
      clear hg e0 hm
      go_enter Tryz.func40, Tryz.ntmps40
      go_wp2_with fail
      refine (C1).mono ?_; rintro e w2 ⟨rfl, rfl⟩
      go_wp2_with fail
      refine (C2).mono ?_; rintro e w2 ⟨rfl, hcd⟩
      have HA := Lib.hid (H.out.called hcd)
      have HO := Lib.hid hcd.2
      clear hcd
      go_wp2_with fail
      refine (HH.out w2 HA.out).mono ?_; rintro e w3 ⟨rfl, g3⟩
      have HA3 := Lib.hid (HA.out.gr g3)
      have HO3 := Lib.hid (HO.out.trans (Only.ofGr g3))
      obtain ⟨a, c, rfl⟩ := HA3.out.2.slice
      have c1 : w3.cell? ⟨d, 1, none⟩ = some (.slice a s.call.fs.length c) := by rw [cells_at HA3.out.1]; rfl
      have CO := Lib.hid (out_c nm s.call.fs (.slice a s.call.fs.length c) w3 HM.out HA3.out.2)
      clear g3
      go_wp2_with fail
      refine CO.out.mono ?_; rintro e w6 ⟨v6, rfl, hL6, g6, hNV⟩
      obtain ⟨a6, k6, rfl⟩ := hL6.slice
      have HA6 := HA3.out.gr g6
      have e1 := cells_free HA6.1 1
      have e2 : w6.cell? ⟨d, 1, none⟩ = some (.slice a s.call.fs.length c) := by rw [cells_at HA6.1]; rfl
      have g8 : Only (fun i => i = d) w6 (w6.setCell ⟨d, 1, none⟩ (.slice a6 (outF nm s.call.fs).length k6)) := Only.cell1 _ _ _ _
      have FIN := Lib.hid (rd_new (s' := s.call.drop nm) (v' := .slice a6 (outF nm s.call.fs).length k6) HBB.out (ok_drop HOKC.out nm) (by rw [drop_out]; exact sort_outF HS.out) (HA6.put (s' := s.call.drop nm) (by rw [drop_out]; exact hL6) g8 (by rw [cells_set HA6.1]; rfl)) ((HO3.out.trans (Only.ofGr g6)).trans g8) (fun x hx => Nat.le_trans (HO3.out.size) (hNV x hx)))
      obtain ⟨n6, hn6⟩ : ∃ n6, (outF nm s.call.fs).length = n6 := ⟨_, rfl⟩
      rw [hn6] at FIN ⊢
      clear HA6 g8 hL6 g6 hNV hn6
      go_wp2_with fail
      go_ret
      exact ⟨rfl, FIN.out⟩
  · rw [show s.call.code = 5 by unfold St.code; rw [hdn]; rfl] at C2
    simp only [if_true]
    clear hdn
    go_enter Tryz.func40, Tryz.ntmps40
    go_wp2_with fail
    refine (C1).mono ?_; rintro e w2 ⟨rfl, rfl⟩
    go_wp2_with fail
    refine (C2).mono ?_; rintro e w2 ⟨rfl, hcd⟩
    have HA := Lib.hid (H.out.called hcd)
    have HO := Lib.hid hcd.2
    clear hcd
    go_wp2_with fail
    go_ret
    exact ⟨rfl, rd_keep HBB.out HOKC.out HS.out HA.out HO.out⟩
theorem r_remove (d : Nat) (s : St) (n : ByteArray) (hn : n.size ≤ 24) (hm : rightB n.data.toList = true) (h1 : s.calls ≤ 1000000000000) (w : World) (B : Nat → Prop) (h : RDiskA d s w B) :
    Calls Tryz.prog 40 #[.pointer (some ⟨d, 0, none⟩), .string n] w (Does w B (RDiskA d (removeR s n.data.toList).1) (.int .i64 (removeR s n.data.toList).2)) := by
  have C := rremove_c d s n.data.toList w h hm (by rw [show n.data.toList.length = n.size from Array.length_toList]; exact hn) h1
  rwa [bs_toList] at C
end Go.Proofs.YtckmciafonnohaaGreat
/- The document's disk: Rename. -/
namespace Go.Proofs.YtckmciafonnohaaGreat
open Go.RowKit FsPlain
set_option linter.unusedVariables false
set_option linter.unusedSimpArgs false
set_option maxRecDepth 20000
theorem move_put {s : St} {a b : List UInt8} {f : F} : (s.move a b f).fs = putF ⟨b, f.data, f.kept⟩ (outF b (outF a s.fs)) := by
  unfold St.move
  show insF _ ((s.drop a).drop b).fs = _
  rw [drop_out, drop_out]
  refine ins_put _ _ fun y hy => ?_
  have := (List.mem_filter.1 hy).2
  simpa using this
theorem sort_move {s : St} {a b : List UInt8} {f : F} (h : SortF s.fs) : SortF (s.move a b f).fs := by
  rw [move_put]
  refine sort_put (sort_outF (sort_outF h)) fun y hy => ?_
  have := (List.mem_filter.1 hy).2
  simpa using this
set_option maxRecDepth 20000 in
set_option maxHeartbeats 4000000 in
theorem rrename_c (d : Nat) (s : St) (nm to : List UInt8) (w : World) {B : Nat → Prop} (hd : RDisk w d s B) (hn : rightB nm = true) (hl : nm.length ≤ 24) (hn2 : rightB to = true) (hl2 : to.length ≤ 24) (hc : s.calls ≤ 1000000000000) :
    Calls Tryz.prog 42 #[.pointer (some ⟨d, 0, none⟩), .string (bs nm), .string (bs to)] w (RDone d B w (renameR s nm to).1 (renameR s nm to).2) := by
  obtain ⟨hok, hsort, v, h, hB⟩ := hd
  have HBB := Lib.hid hB
  clear hB
  have C1 := rright_c (bs nm) (by rw [bs_size]; unfold maxLen; omega) w
  rw [rbs_list, hn] at C1
  have C1b := rright_c (bs to) (by rw [bs_size]; unfold maxLen; omega) w
  rw [rbs_list, hn2] at C1b
  have C2 := rcall_yes d s v w h.1 hok.c0 hc hok.a0 hok.a1
  have hokc := ok_call hok
  have hm := hok.m
  have HOK := Lib.hid hok
  have HOKC := Lib.hid hokc
  have HS := Lib.hid hsort
  have H := Lib.hid h
  have HL2 := Lib.hid hl2
  clear hok hokc hsort h
  unfold renameR
  cases hdn : s.call.down
  · rw [show s.call.code = 0 by unfold St.code; rw [hdn]; rfl] at C2
    have HDN := Lib.hid hdn
    clear hdn
    cases hg : s.get nm with
    | none =>
      have hp := place_of_none hg
      simp only [Bool.false_eq_true, if_false]
      clear hg
      go_enter Tryz.func42, Tryz.ntmps42
      go_wp2_with fail
      refine (C1).mono ?_; rintro e w2 ⟨rfl, rfl⟩
      go_wp2_with fail
      refine (C1b).mono ?_; rintro e w2 ⟨rfl, rfl⟩
      go_wp2_with fail
      refine (C2).mono ?_; rintro e w2 ⟨rfl, hcd⟩
      have HA := Lib.hid (H.out.called hcd)
      have HO := Lib.hid hcd.2
      clear hcd
      go_wp2_with fail
      refine (rat_c d s.call nm v w2 (show s.fs.length ≤ 300 by omega) HA.out).mono ?_; rintro e w3 ⟨rfl, g3⟩
      rw [show placeF nm s.call.fs = -1 from hp]
      have HA3 := Lib.hid (HA.out.gr g3)
      have HO3 := Lib.hid (HO.out.trans (Only.ofGr g3))
      clear g3 hp
      go_wp2_with fail
      go_ret
      exact ⟨rfl, rd_keep HBB.out HOKC.out HS.out (HA3.out) (HO3.out)⟩
    | some f =>
      obtain ⟨k, hp, hat, hfn⟩ := place_of_some hg
      have hkl := (List.getElem?_eq_some_iff.1 hat).1
      have HG := Lib.hid hg
      simp only [Bool.false_eq_true, if_false]
      have HAT := Lib.hid hat
      clear hg hat
      go_enter Tryz.func42, Tryz.ntmps42
      go_wp2_with fail
      refine (C1).mono ?_; rintro e w2 ⟨rfl, rfl⟩
      go_wp2_with fail
      refine (C1b).mono ?_; rintro e w2 ⟨rfl, rfl⟩
      go_wp2_with fail
      refine (C2).mono ?_; rintro e w2 ⟨rfl, hcd⟩
      have HA := Lib.hid (H.out.called hcd)
      have HO := Lib.hid hcd.2
      clear hcd
      go_wp2_with fail
      refine (rat_c d s.call nm v w2 (show s.fs.length ≤ 300 by omega) HA.out).mono ?_; rintro e w3 ⟨rfl, g3⟩
      rw [show placeF nm s.call.fs = (k : Int) from hp]
      have HA3 := Lib.hid (HA.out.gr g3)
      have HO3 := Lib.hid (HO.out.trans (Only.ofGr g3))
      clear g3 hp
      have HA4 := HA3
      have HO4 := HO3
      obtain ⟨w4, hw4⟩ : ∃ w4, w4 = w3 := ⟨_, rfl⟩
      rw [← hw4] at HA4 HO4 ⊢
      clear hw4 HA3 HO3
      obtain ⟨hh, ⟨h1, _⟩ | ⟨b, off, cc, rfl, hcc, hcell⟩⟩ := HA4.out
      · exfalso; rw [show s.call.fs = s.fs from rfl] at h1; rw [h1] at hkl; exact absurd hkl (by simp)
      have c1 : w4.cell? ⟨d, 1, none⟩ = some (.slice (some ⟨b, off, none⟩) s.fs.length cc) := by rw [cells_at hh]; rfl
      obtain ⟨q0, q1, q2⟩ := fall3_at s.fs k f HAT.out
      rw [Nat.mul_comm 3 k] at q0 q1 q2
      have y0 := hcell.2 _ _ q0
      have y1 := hcell.2 _ _ q1
      have y2 := hcell.2 _ _ q2
      rw [← Nat.add_assoc] at y1 y2
      have HCC := Lib.hid hcell
      clear hcell q0 q1 q2
      have HP := Lib.hid (fun (l : List F) (u : Value) (x : World) (h1 : l.length ≤ 300) (h2 : FLies x u l) => (show Calls Tryz.prog 31 #[u, .agg #[.string (bs to), .string (bs f.data), .int .i64 (f.kept : Int)]] x fun e w' => ∃ v, e = .returned v ∧ FLies w' v (putF ⟨to, f.data, f.kept⟩ l) ∧ Gr x w' ∧ NewV x v from put4_c ⟨to, f.data, f.kept⟩ l u x h1 h2))
      have HHH := Lib.hid hh
      have hlo : (outF nm s.fs).length ≤ 300 := Nat.le_trans (List.length_filter_le _ _) (by omega)
      have hlo2 : (outF to (outF nm s.fs)).length ≤ 300 := Nat.le_trans (List.length_filter_le _ _) hlo
      have hdl := blk_lt2 hh
      clear hh
      go_wp2_with fail
      obtain ⟨W, hW⟩ : ∃ W, W = w4.alloc (.cells #[.string (bs to), .string (bs f.data), .int .i64 (f.kept : Int)] 65 (0, 0)) := ⟨_, rfl⟩
      rw [← hW]
      have gW : Gr w4 W := by rw [hW]; exact Below.alloc (Below.refl _ _) (Nat.le_refl _) _
      have hx : W.heap[w4.heap.size]? = some (.cells #[.string (bs to), .string (bs f.data), .int .i64 (f.kept : Int)] 65 (0, 0)) := by rw [hW]; exact heap_alloc_new w4 _
      have x0 : W.cell? ⟨w4.heap.size, 0, none⟩ = some (.string (bs to)) := by rw [heap_cell hx]; rfl
      have x1 : W.cell? ⟨w4.heap.size, 1, none⟩ = some (.string (bs f.data)) := by rw [heap_cell hx]; rfl
      have x2 : W.cell? ⟨w4.heap.size, 2, none⟩ = some (.int .i64 (f.kept : Int)) := by rw [heap_cell hx]; rfl
      have hxl := blk_lt2 hx
      have HAW := Lib.hid ((show RAt w4 d s.call _ from ⟨HHH.out, .inr ⟨b, off, cc, rfl, hcc, HCC.out⟩⟩).gr gW)
      have HOW := Lib.hid (HO4.out.trans (Only.ofGr gW))
      have d1 : W.cell? ⟨d, 1, none⟩ = some (.slice (some ⟨b, off, none⟩) s.fs.length cc) := by rw [cells_at HAW.out.1]; rfl
      have hdW := blk_lt2 HAW.out.1
      have COUT := out_c nm s.fs (.slice (some ⟨b, off, none⟩) s.fs.length cc) W.drew (by omega) (show FLies W.drew _ s.fs from HAW.out.2)
      have COUT2 := Lib.hid (fun u x (h : FLies x u (outF nm s.fs)) => out_c to (outF nm s.fs) u x hlo h)
      clear hW gW hx c1 y0 y1 y2
      go_region_with (first
        | (go_at_call 34; (with_reducible refine (COUT).mono ?_); rintro e w6 ⟨v6, rfl, hL6, g6, _⟩
           have z0 : w6.cell? ⟨w4.heap.size, 0, none⟩ = some (.string (bs to)) := by rw [Below.cell g6 (p := ⟨w4.heap.size, 0, none⟩) hxl]; exact x0
           have z1 : w6.cell? ⟨w4.heap.size, 1, none⟩ = some (.string (bs f.data)) := by rw [Below.cell g6 (p := ⟨w4.heap.size, 1, none⟩) hxl]; exact x1
           have z2 : w6.cell? ⟨w4.heap.size, 2, none⟩ = some (.int .i64 (f.kept : Int)) := by rw [Below.cell g6 (p := ⟨w4.heap.size, 2, none⟩) hxl]; exact x2
           have HL6 := Lib.hid hL6
           have HG6 := Lib.hid g6
           clear hL6 g6)
        | (go_at_call 34; (with_reducible refine (COUT2.out _ _ HL6.out).mono ?_); rintro e w6b ⟨v6b, rfl, hL6b, g6b, _⟩
           have HL6b := Lib.hid hL6b
           have HG6b := Lib.hid (HG6.out.trans g6b)
           have z0 : w6b.cell? ⟨w4.heap.size, 0, none⟩ = some (.string (bs to)) := by rw [Below.cell HG6b.out (p := ⟨w4.heap.size, 0, none⟩) hxl]; exact x0
           have z1 : w6b.cell? ⟨w4.heap.size, 1, none⟩ = some (.string (bs f.data)) := by rw [Below.cell HG6b.out (p := ⟨w4.heap.size, 1, none⟩) hxl]; exact x1
           have z2 : w6b.cell? ⟨w4.heap.size, 2, none⟩ = some (.int .i64 (f.kept : Int)) := by rw [Below.cell HG6b.out (p := ⟨w4.heap.size, 2, none⟩) hxl]; exact x2
           clear hL6b g6b)
        | (go_at_call 31; (with_reducible refine (HP.out _ _ _ hlo2 HL6b.out).mono ?_); rintro e w7 ⟨v7, rfl, hL7, g7, hNV⟩
           obtain ⟨a7, k7, rfl⟩ := hL7.slice
           obtain ⟨n7, hn7⟩ : ∃ n7, (putF ⟨to, f.data, f.kept⟩ (outF to (outF nm s.fs))).length = n7 := ⟨_, rfl⟩
           rw [hn7] at hL7 ⊢
           have G7 : Gr W w7 := (Gr.ofDrew HG6b.out).trans g7
           have HA7 := Lib.hid (HAW.out.gr G7)
           have HO7 := Lib.hid (HOW.out.trans (Only.ofGr G7))
           have HL7 := Lib.hid hL7
           have e1 := cells_free HA7.out.1 1
           have e2 : w7.cell? ⟨d, 1, none⟩ = some (.slice (some ⟨b, off, none⟩) s.fs.length cc) := by rw [cells_at HA7.out.1]; rfl
           have HNV := Lib.hid hNV
           clear hL7 g7 G7 hNV))
      all_goals
        go_wp2_with fail
        go_ret
        have g8 : Only (fun i => i = d) w7 (w7.setCell ⟨d, 1, none⟩ (.slice a7 n7 k7)) := Only.cell1 _ _ _ _
        refine ⟨rfl, rd_new (s' := s.call.move nm to f) (v' := .slice a7 n7 k7) HBB.out (ok_move HOKC.out HL2.out HG.out) (sort_move HS.out) ?_ (HO7.out.trans g8) (fun x hx => Nat.le_trans (Nat.le_trans HOW.out.size HG6b.out.size) (HNV.out x ((own_len _ _ _ _).trans hx)))⟩
        refine HA7.out.put (s' := s.call.move nm to f) (by rw [move_put]; exact HL7.out) g8 ?_
        rw [cells_set HA7.out.1]; rfl
  · rw [show s.call.code = 5 by unfold St.code; rw [hdn]; rfl] at C2
    simp only [if_true]
    clear hdn
    go_enter Tryz.func42, Tryz.ntmps42
    go_wp2_with fail
    refine (C1).mono ?_; rintro e w2 ⟨rfl, rfl⟩
    go_wp2_with fail
    refine (C1b).mono ?_; rintro e w2 ⟨rfl, rfl⟩
    go_wp2_with fail
    refine (C2).mono ?_; rintro e w2 ⟨rfl, hcd⟩
    have HC := Lib.hid hcd
    clear hcd
    go_wp2_with fail
    go_ret
    exact ⟨rfl, rd_keep HBB.out HOKC.out HS.out (H.out.called HC.out) (HC.out.2)⟩
theorem r_rename (d : Nat) (s : St) (n t : ByteArray) (hn : n.size ≤ 24) (hm : rightB n.data.toList = true) (ht : t.size ≤ 24) (hmt : rightB t.data.toList = true) (h1 : s.calls ≤ 1000000000000) (w : World) (B : Nat → Prop) (h : RDiskA d s w B) :
    Calls Tryz.prog 42 #[.pointer (some ⟨d, 0, none⟩), .string n, .string t] w (Does w B (RDiskA d (renameR s n.data.toList t.data.toList).1) (.int .i64 (renameR s n.data.toList t.data.toList).2)) := by
  have C := rrename_c d s n.data.toList t.data.toList w h hm (by rw [show n.data.toList.length = n.size from Array.length_toList]; exact hn) hmt (by rw [show t.data.toList.length = t.size from Array.length_toList]; exact ht) h1
  rwa [bs_toList, bs_toList] at C
end Go.Proofs.YtckmciafonnohaaGreat
/- The document's disk: Rise. -/
namespace Go.Proofs.YtckmciafonnohaaGreat
open Go.RowKit FsPlain
set_option linter.unusedVariables false
set_option linter.unusedSimpArgs false
set_option maxRecDepth 20000
def riseL (ks : List Int) (l : List F) : List F := l.mapIdx fun i f => fall f (ks.getD i 0)
theorem riseL_snoc {ks : List Int} {l : List F} {k : Nat} {y : F} (h : l[k]? = some y) : riseL ks (l.take (k + 1)) = riseL ks (l.take k) ++ [fall y (ks.getD k 0)] := by
  have hk := (List.getElem?_eq_some_iff.1 h).1
  unfold riseL
  rw [List.take_add_one, h, Option.toList_some, List.mapIdx_append, List.length_take, Nat.min_eq_left (by omega)]
  simp
theorem riseL_len (ks : List Int) (l : List F) : (riseL ks l).length = l.length := by simp [riseL]
def KCells (w : World) (a : Option Addr) (ks : List Int) : Prop := ∀ j x, ks[j]? = some x → ∃ p, a = some p ∧ p.block < w.heap.size ∧ w.cell? (Addr.add p j) = some (.int .i64 x)
def RiAt (ks : List Int) (l : List F) (w : World) (out i : Value) (wr : World) : Prop :=
  ∃ k : Nat, k ≤ l.length ∧ i = .int .i64 k ∧ wr.ownsRow w.heap.size 65 3 out k (fall3 (riseL ks (l.take k))) ∧ Below w.heap.size w wr
theorem fall0_cells (y : F) (k : Nat := 0) : fcells (fall y (([] : List Int).getD k 0)) = [Value.string (bs y.name), Value.string ((bs y.data).extract 0 y.kept), Value.int IntKind.i64 (y.kept : Int)] := by
  have h : (bs y.data).extract 0 y.kept = bs (y.data.take y.kept) := by
    apply ByteArray.ext
    simp [bs, ByteArray.data_extract]
  rw [h]
  simp [fcells, fall]
set_option maxRecDepth 20000 in
set_option maxHeartbeats 4000000 in
theorem rrise_some (d : Nat) (s : St) (b off c : Nat) (w : World) (hs : s.ok) (hd : w.heap[d]? = some (.cells (rcells s (.slice (some ⟨b, off, none⟩) s.fs.length c)) 45 (0, 0))) (hc : s.fs.length ≤ c) (hr : FCells w b off s.fs) :
    Calls Tryz.prog 21 #[.pointer (some ⟨d, 0, none⟩), .slice none 0 0] w fun e w' => e = .returned (.tuple #[]) ∧ (∃ v u, FLies u v (riseL [] s.fs) ∧ NewV w v ∧ Below w.heap.size w u ∧ w' = ((u.setCell ⟨d, 1, none⟩ v).setCell ⟨d, 3, none⟩ (.bool false)).setCell ⟨d, 2, none⟩ (.int .i64 (-1))) := by
  have hst : RiAt [] s.fs w (.slice none 0 0) (.int .i64 0) w := ⟨0, Nat.zero_le _, rfl, World.ownsRow_nil _ _ _ _, Below.refl _ _⟩
  have hm := hs.m
  have hr1 := hs.r1
  have hu := hs.u
  have hkk := hs.k
  obtain ⟨l, hl⟩ : ∃ l, s.fs = l := ⟨_, rfl⟩
  rw [hl] at hd hc hr hst ⊢ hm hu hkk
  obtain ⟨n, hn⟩ : ∃ n, l.length = n := ⟨_, rfl⟩
  have HN := Lib.hid hn
  have HR := Lib.hid hr
  have HD := Lib.hid hd
  have HST := Lib.hid hst
  have HKK := Lib.hid hkk
  rw [hn] at hc hm
  clear hn hr hst hd hl hs hkk
  go_enter Tryz.func21, Tryz.ntmps21
  go_wp2_with fail
  go_loopw [4, 5] (fun o i wr => RiAt [] l w o i wr) (fun _ i _ => n - (intOf i).toNat)
  case atStart => exact HST.out
  case round =>
    obtain ⟨k, hk, rfl, ho, hb⟩ := hrel
    have hln := HN.out
    have hdw : wr.heap[d]? = w.heap[d]? := hb.block d (blk_lt2 HD.out)
    have hd1 := HD.out
    rw [← hdw] at hd1
    have c1 : wr.cell? ⟨d, 1, none⟩ = some (.slice (some ⟨b, off, none⟩) n c) := by rw [cells_at hd1]; rw [← hln]; rfl
    have f1 := cells_free hd1 1
    have f2 := cells_free hd1 2
    have f3 := cells_free hd1 3
    have c2 : wr.cell? ⟨d, 2, none⟩ = some (.int .i64 s.ahead) := by rw [cells_at hd1]; rfl
    have c3 : wr.cell? ⟨d, 3, none⟩ = some (.bool s.down) := by rw [cells_at hd1]; rfl
    obtain ⟨i0, hi, hz0, hz1, hz2⟩ := info_parts infoF
    have HB := Lib.hid hb
    have HO := Lib.hid ho
    have HD1 := Lib.hid hd1
    clear hdw hd1
    by_cases hlt : k < n
    · obtain ⟨y, hy⟩ : ∃ y, l[k]? = some y := ⟨_, List.getElem?_eq_getElem (by omega)⟩
      obtain ⟨q0, q1, q2⟩ := fall3_at l k y hy
      have hrw := HR.out.gr (Gr.of hb)
      rw [Nat.mul_comm 3 k] at q0 q1 q2
      have y0 := hrw.2 _ _ q0
      have y1 := hrw.2 _ _ q1
      have y2 := hrw.2 _ _ q2
      rw [← Nat.add_assoc] at y1 y2
      have hsz : (bs y.data).size = y.data.length := bs_size _
      have hyk := HKK.out y (List.mem_of_getElem? hy)
      have hyu := used_le (List.mem_of_getElem? hy)
      have HSN := Lib.hid (riseL_snoc (ks := []) hy)
      clear hy q0 q1 q2 hrw hb ho
      obtain ⟨fc, hfc⟩ : ∃ fc, fc = [Value.string (bs y.name), Value.string ((bs y.data).extract 0 y.kept), Value.int IntKind.i64 (y.kept : Int)] := ⟨_, rfl⟩
      have HF := Lib.hid (show fcells (fall y (([] : List Int).getD k 0)) = fc by rw [hfc]; exact fall0_cells y k)
      have hoV := HO.out
      go_wp2_with (first | (at_builtin; refine wpList_append_own _ rfl _ _ 43 rfl w.heap.size 65 i0 (.agg #[.string ⟨#[]⟩, .string ⟨#[]⟩, .int .i64 0]) 3 40 Tryz.underlying43 hi hz0 hz1 hz2 rfl (by decide) _ _ _ rfl ((hoV.alloc _).alloc _) ⟨wr.heap.size + 1, 0, none⟩ 1 1 fc rfl ?c0 ?c1 ?c2 ?c3 ?c4 ?c5 ?_) | go_in)
      case c0 => rw [hfc]; rfl
      case c1 =>
        intro jj u hj
        rw [hfc] at hj
        match jj, hj with
        | 0, hj => simp at hj; subst hj; simp [Addr.add]
        | 1, hj => simp at hj; subst hj; simp [Addr.add]
        | 2, hj => simp at hj; subst hj; simp [Addr.add]
      case c2 => intro u hu; rw [hfc] at hu; simp at hu; rcases hu with rfl | rfl | rfl <;> rfl
      case c3 => unfold maxLen; omega
      case c4 => omega
      case c5 => have := HB.out.size; simp only [World.size_alloc]; omega
      intro v' w' hw hg _
      have HB' := Lib.hid (((HB.out.alloc HB.out.size _).alloc (by have := HB.out.size; simp only [World.size_alloc]; omega) _).grown hg (by have := HB.out.size; simp only [World.size_alloc]; omega) (fun q hq => (hoV.lt q hq).1))
      have HO' := Lib.hid hw
      clear hw hg hoV
      go_wp2_with fail
      refine ⟨⟨k + 1, by omega, by simp, ?_, HB'.out⟩, ?_⟩
      · rw [HSN.out, fall3_snoc, HF.out, hfc]; exact HO'.out
      · simp [intOf]; omega
    · have he := Lib.hid (show l.take k = l from List.take_of_length_le (by omega))
      obtain ⟨a, cc, rfl⟩ : ∃ a c, u4 = .slice a k c := by
        have := flies_own (l := riseL [] (l.take k)) (by rw [riseL_len, List.length_take, Nat.min_eq_left hk]; exact ho)
        obtain ⟨a, c, e⟩ := this.slice
        rw [riseL_len, List.length_take, Nat.min_eq_left hk] at e
        exact ⟨a, c, e⟩
      clear hb ho
      go_wp2_with fail
      go_end0
      refine ⟨rfl, .slice a k cc, wr, flies_own (l := riseL [] l) (B := w.heap.size) ?_, fun x hx => (HO.out.lt x hx).1, HB.out, rfl⟩
      have h1 := HO.out
      rw [he.out] at h1
      rw [riseL_len]
      have : k = l.length := by omega
      rwa [this] at h1 ⊢
end Go.Proofs.YtckmciafonnohaaGreat
