/- In one text: RfsAppend, RfsNew, RfsRead, Rrd, Rrd2. -/
import Derived.Test.YtojlceoeacebmaaGreatP16
import Derived.Deep.RegionLaw
import Derived.Deep.RegionHeld3
import Derived.Deep.RegionWith
import Derived.Deep.QuietTactic
import Derived.Test.YtojlceoeacebmaaGreatP07
import Derived.Test.YtojlceoeacebmaaGreatP08
/- The document's disk: Append. -/
namespace Go.Proofs.YtojlceoeacebmaaGreat
open Go.RowKit FsPlain
set_option linter.unusedVariables false
set_option linter.unusedSimpArgs false
set_option maxRecDepth 20000
theorem rappend_bad (d : Nat) (nm : List UInt8) (t : ByteArray) (w : World) (hn : rightB nm = false) (hl : nm.length ≤ 1000000) :
    Calls Tryz.prog 11 #[.pointer (some ⟨d, 0, none⟩), .string (bs nm), .string t] w fun e w' => e = .returned (.int .i64 1) ∧ w = w' := by
  have C1 := rright_c (bs nm) (by rw [bs_size]; unfold maxLen; omega) w
  rw [rbs_list, hn] at C1
  have C2 := rcall_no d w
  go_enter Tryz.func11, Tryz.ntmps11
  go_wp2_with fail
  refine (C1).mono ?_; rintro e w2 ⟨rfl, rfl⟩
  go_wp2_with fail
  refine (C2).mono ?_; rintro e w2 ⟨rfl, rfl⟩
  go_wp2_with fail
  go_ret
  exact ⟨rfl, rfl⟩
set_option maxRecDepth 20000 in
set_option maxHeartbeats 4000000 in
theorem rappend_c (d : Nat) (s : St) (nm t : List UInt8) (w : World) {B : Nat → Prop} (hd : RDisk w d s B) (hn : rightB nm = true) (hl : nm.length ≤ 24) (ht : t.length ≤ 1000000000) (hc : s.calls ≤ 1000000000000) :
    Calls Tryz.prog 11 #[.pointer (some ⟨d, 0, none⟩), .string (bs nm), .string (bs t)] w (RDone d B w (appendR s nm t).1 (appendR s nm t).2) := by
  obtain ⟨hok, hsort, v, h, hB⟩ := hd
  have HBB := Lib.hid hB
  clear hB
  have C1 := rright_c (bs nm) (by rw [bs_size]; unfold maxLen; omega) w
  rw [rbs_list, hn] at C1
  have C2 := rcall_yes d s v w h.1 hok.c0 hc hok.a0 hok.a1
  have hokc := ok_call hok
  have hm := hok.m
  have hr0 := hok.r0
  have hr1 := hok.r1
  have hu := hok.u
  have hts : (bs t).size = t.length := bs_size t
  have HOK := Lib.hid hok
  have HOKC := Lib.hid hokc
  have HS := Lib.hid hsort
  have H := Lib.hid h
  clear hok hokc hsort h
  unfold appendR
  cases hdn : s.call.down
  · rw [show s.call.code = 0 by unfold St.code; rw [hdn]; rfl] at C2
    have HDN := Lib.hid hdn
    clear hdn
    cases hg : s.get nm with
    | none =>
      have hp := place_of_none hg
      have HG := Lib.hid hg
      simp only [Bool.false_eq_true, if_false]
      clear hg
      go_enter Tryz.func11, Tryz.ntmps11
      go_wp2_with fail
      refine (C1).mono ?_; rintro e w2 ⟨rfl, rfl⟩
      go_wp2_with fail
      refine (C2).mono ?_; rintro e w2 ⟨rfl, hcd⟩
      have HA := Lib.hid (H.out.called hcd)
      have HO := Lib.hid hcd.2
      clear hcd
      go_wp2_with fail
      refine (rat_c d s.call nm v w2 (show s.fs.length ≤ 300 by omega) HA.out).mono ?_; rintro e w3 ⟨rfl, g3⟩
      rw [show placeF nm s.call.fs = -1 from hp]
      have HA3 := Lib.hid (HA.out.gr g3)
      have HO3 := Lib.hid (HO.out.trans (Only.ofGr g3))
      clear g3 hp
      go_wp2_with fail
      go_ret
      exact ⟨rfl, rd_keep HBB.out HOKC.out HS.out (HA3.out) (HO3.out)⟩
    | some f =>
      obtain ⟨k, hp, hat, hfn⟩ := place_of_some hg
      have hkl := (List.getElem?_eq_some_iff.1 hat).1
      have HG := Lib.hid hg
      simp only [Bool.false_eq_true, if_false]
      obtain ⟨R, hR⟩ : ∃ R, (if s.room < used s.fs + t.length then (s.call, (4 : Int)) else (s.call.upd nm (fun f => { f with data := f.data ++ t }), 0)) = R := ⟨_, rfl⟩
      rw [hR]
      have HRR := Lib.hid hR
      have HAT := Lib.hid hat
      clear hg hR hat
      go_enter Tryz.func11, Tryz.ntmps11
      go_wp2_with fail
      refine (C1).mono ?_; rintro e w2 ⟨rfl, rfl⟩
      go_wp2_with fail
      refine (C2).mono ?_; rintro e w2 ⟨rfl, hcd⟩
      have HA := Lib.hid (H.out.called hcd)
      have HO := Lib.hid hcd.2
      clear hcd
      go_wp2_with fail
      refine (rat_c d s.call nm v w2 (show s.fs.length ≤ 300 by omega) HA.out).mono ?_; rintro e w3 ⟨rfl, g3⟩
      rw [show placeF nm s.call.fs = (k : Int) from hp]
      have HA3 := Lib.hid (HA.out.gr g3)
      have HO3 := Lib.hid (HO.out.trans (Only.ofGr g3))
      clear g3 hp
      have c0 : w3.cell? ⟨d, 0, none⟩ = some (.int .i64 s.room) := by rw [cells_at HA3.out.1]; rfl
      go_wp2_with fail
      have CU := rused_c d s.call v w3.drew HOKC.out HA3.out
      rw [show used s.call.fs = used s.fs from rfl] at CU
      have hlt := blk_lt2 HA3.out.1
      go_region_held3 (fun w' => w'.cell? ⟨d, 0, none⟩ = some (.int .i64 s.room)) (first | go_keep | (rw [Below.cell g (p := ⟨d, 0, none⟩) hlt]; go_keep)) ((go_at_call 36; ((with_reducible refine (CU).mono ?_); rintro e w4 ⟨rfl, g⟩)))
      have g4 : Gr w3 w4 := Gr.ofDrew g
      clear g
      have HA4 := Lib.hid (HA3.out.gr g4)
      have HO4 := Lib.hid (HO3.out.trans (Only.ofGr g4))
      clear g4 c0 CU
      have hwr : IntKind.i64.wrap (s.room - (used s.fs : Int)) = s.room - (used s.fs : Int) := IntWalk.i64_in _ (by omega)
      have hfs : (bs f.data).size = f.data.length := bs_size _
      have hfu := used_le (List.mem_of_getElem? HAT.out)
      by_cases hroom : s.room < used s.fs + t.length
      · have hR := HRR.out
        rw [if_pos hroom] at hR
        subst hR
        go_wp2_with fail
        go_ret
        exact ⟨rfl, rd_keep HBB.out HOKC.out HS.out HA4.out HO4.out⟩
      · have hR := HRR.out
        rw [if_neg hroom] at hR
        subst hR
        obtain ⟨hh, ⟨h1, _⟩ | ⟨b, off, cc, rfl, hcc, hcell⟩⟩ := HA4.out
        · exfalso; rw [show s.call.fs = s.fs from rfl] at h1; rw [h1] at hkl; exact absurd hkl (by simp)
        have c1 : w4.cell? ⟨d, 1, none⟩ = some (.slice (some ⟨b, off, none⟩) s.fs.length cc) := by rw [cells_at hh]; rfl
        obtain ⟨q0, q1, q2⟩ := fall3_at s.fs k f HAT.out
        rw [Nat.mul_comm 3 k] at q0 q1 q2
        have y0 := hcell.2 _ _ q0
        have y1 := hcell.2 _ _ q1
        have y2 := hcell.2 _ _ q2
        rw [← Nat.add_assoc] at y1 y2
        have HCC := Lib.hid hcell
        clear hcell q0 q1 q2
        have CPUT : ∀ (l : List F) (u : Value) (x : World), l.length ≤ 300 → FLies x u l → Calls Tryz.prog 34 #[u, .agg #[.string (bs nm), .string (bs f.data ++ bs t), .int .i64 (f.kept : Int)]] x fun e w' => ∃ v, e = .returned v ∧ FLies w' v (putF { f with data := f.data ++ t } l) ∧ Gr x w' ∧ NewV x v := by
          intro l u x h1 h2
          rw [bs_app, ← hfn]
          exact put4_c { f with data := f.data ++ t } l u x h1 h2
        have HP := Lib.hid CPUT
        have HHH := Lib.hid hh
        have hlo : (outF nm s.fs).length ≤ 300 := Nat.le_trans (List.length_filter_le _ _) (by omega)
        have hdl := blk_lt2 hh
        clear hh CPUT
        go_wp2_with fail
        obtain ⟨W, hW⟩ : ∃ W, W = w4.alloc (.cells #[.string (bs nm), .string (bs f.data ++ bs t), .int .i64 (f.kept : Int)] 79 (0, 0)) := ⟨_, rfl⟩
        rw [← hW]
        have gW : Gr w4 W := by rw [hW]; exact Below.alloc (Below.refl _ _) (Nat.le_refl _) _
        have hx : W.heap[w4.heap.size]? = some (.cells #[.string (bs nm), .string (bs f.data ++ bs t), .int .i64 (f.kept : Int)] 79 (0, 0)) := by rw [hW]; exact heap_alloc_new w4 _
        have x0 : W.cell? ⟨w4.heap.size, 0, none⟩ = some (.string (bs nm)) := by rw [heap_cell hx]; rfl
        have x1 : W.cell? ⟨w4.heap.size, 1, none⟩ = some (.string (bs f.data ++ bs t)) := by rw [heap_cell hx]; rfl
        have x2 : W.cell? ⟨w4.heap.size, 2, none⟩ = some (.int .i64 (f.kept : Int)) := by rw [heap_cell hx]; rfl
        have hxl := blk_lt2 hx
        have HAW := Lib.hid ((show RAt w4 d s.call _ from ⟨HHH.out, .inr ⟨b, off, cc, rfl, hcc, HCC.out⟩⟩).gr gW)
        have HOW := Lib.hid (HO4.out.trans (Only.ofGr gW))
        have d1 : W.cell? ⟨d, 1, none⟩ = some (.slice (some ⟨b, off, none⟩) s.fs.length cc) := by rw [cells_at HAW.out.1]; rfl
        have hdW := blk_lt2 HAW.out.1
        have COUT := out_c nm s.fs (.slice (some ⟨b, off, none⟩) s.fs.length cc) W.drew (by omega) (show FLies W.drew _ s.fs from HAW.out.2)
        clear hW gW hx c1 y0 y1 y2
        go_region_with (first
          | (go_at_call 37; refine (COUT).mono ?_; rintro e w6 ⟨v6, rfl, hL6, g6, _⟩
             have z0 : w6.cell? ⟨w4.heap.size, 0, none⟩ = some (.string (bs nm)) := by rw [Below.cell g6 (p := ⟨w4.heap.size, 0, none⟩) hxl]; exact x0
             have z1 : w6.cell? ⟨w4.heap.size, 1, none⟩ = some (.string (bs f.data ++ bs t)) := by rw [Below.cell g6 (p := ⟨w4.heap.size, 1, none⟩) hxl]; exact x1
             have z2 : w6.cell? ⟨w4.heap.size, 2, none⟩ = some (.int .i64 (f.kept : Int)) := by rw [Below.cell g6 (p := ⟨w4.heap.size, 2, none⟩) hxl]; exact x2
             have HL6 := Lib.hid hL6
             have HG6 := Lib.hid g6
             clear hL6 g6)
          | (go_at_call 34; refine (HP.out _ _ _ hlo HL6.out).mono ?_; rintro e w7 ⟨v7, rfl, hL7, g7, hNV⟩
             obtain ⟨a7, k7, rfl⟩ := hL7.slice
             obtain ⟨n7, hn7⟩ : ∃ n7, (putF { f with data := f.data ++ t } (outF nm s.fs)).length = n7 := ⟨_, rfl⟩
             rw [hn7] at hL7 ⊢
             have G7 : Gr W w7 := (Gr.ofDrew HG6.out).trans g7
             have HA7 := Lib.hid (HAW.out.gr G7)
             have HO7 := Lib.hid (HOW.out.trans (Only.ofGr G7))
             have HL7 := Lib.hid hL7
             have e1 := cells_free HA7.out.1 1
             have e2 : w7.cell? ⟨d, 1, none⟩ = some (.slice (some ⟨b, off, none⟩) s.fs.length cc) := by rw [cells_at HA7.out.1]; rfl
             have HNV := Lib.hid hNV
             clear hL7 g7 G7 hNV))
        all_goals
          go_wp2_with fail
          go_ret
          have g8 : Only (fun i => i = d) w7 (w7.setCell ⟨d, 1, none⟩ (.slice a7 n7 k7)) := Only.cell1 _ _ _ _
          have hup := upd_put (s := s.call) HOKC.out HS.out (n := nm) (f := f) HG.out (fun f => { f with data := f.data ++ t }) rfl
          have hkk := HOK.out.k f (List.mem_of_getElem? HAT.out)
          have hoku := ok_upd (s := s.call) HOKC.out (n := nm) (f := f) HG.out (g := fun f => { f with data := f.data ++ t }) rfl (by show f.kept ≤ (f.data ++ t).length; rw [List.length_append]; omega) (by show (used s.fs : Int) + ((f.data ++ t).length : Int) ≤ s.room + f.data.length; rw [List.length_append]; omega)
          refine ⟨rfl, rd_new (v' := .slice a7 n7 k7) HBB.out hoku hup.2 ?_ (HO7.out.trans g8) (fun x hx => Nat.le_trans (Nat.le_trans HOW.out.size HG6.out.size) (HNV.out x ((own_len _ _ _ _).trans hx)))⟩
          refine HA7.out.put (s' := s.call.upd nm (fun f => { f with data := f.data ++ t })) (by rw [← hup.1]; exact HL7.out) g8 ?_
          rw [cells_set HA7.out.1]; rfl
  · rw [show s.call.code = 5 by unfold St.code; rw [hdn]; rfl] at C2
    have HDN := Lib.hid hdn
    simp only [if_true]
    clear hdn
    go_enter Tryz.func11, Tryz.ntmps11
    go_wp2_with fail
    refine (C1).mono ?_; rintro e w2 ⟨rfl, rfl⟩
    go_wp2_with fail
    refine (C2).mono ?_; rintro e w2 ⟨rfl, hcd⟩
    have HC := Lib.hid hcd
    clear hcd
    go_wp2_with fail
    go_ret
    exact ⟨rfl, rd_keep HBB.out HOKC.out HS.out (H.out.called HC.out) (HC.out.2)⟩
end Go.Proofs.YtojlceoeacebmaaGreat
/- The document's disk: New, Arm, Whole. -/
namespace Go.Proofs.YtojlceoeacebmaaGreat
open Go.RowKit FsPlain
set_option linter.unusedVariables false
set_option linter.unusedSimpArgs false
set_option maxRecDepth 20000
theorem rnew_no (room : Int) (w : World) (h : room < 0 ∨ 16777216 < room) :
    Calls Tryz.prog 9 #[.int .i64 room] w fun e w' => e = .returned (.pointer none) ∧ w = w' := by
  by_cases h0 : room < 0
  all_goals
    go_enter Tryz.func9, Tryz.ntmps9
    go_wp2_with fail
    go_ret
    exact ⟨rfl, rfl⟩
theorem rnew_c (room : Int) (w : World) (h0 : 0 ≤ room) (h1 : room ≤ 16777216) :
    Calls Tryz.prog 9 #[.int .i64 room] w fun e w' => e = .returned (.pointer (some ⟨w.heap.size, 0, none⟩)) ∧ RDisk w' w.heap.size ⟨room, 0, -1, false, []⟩ (fun x => x = w.heap.size) ∧ Gr w w' := by
  go_enter Tryz.func9, Tryz.ntmps9
  go_wp2_with fail
  go_ret
  refine ⟨rfl, ⟨⟨h0, h1, by simp, by simp, by simp, by simpa [used] using h0, by simp, by simp, by simp, List.Pairwise.nil⟩, List.Pairwise.nil, .slice none 0 0, ⟨heap_alloc_new w _, .inl ⟨rfl, rfl⟩⟩, (fun x hx => by rw [hx]; simp), rfl, fun x hx => by cases hx⟩, Below.alloc (Below.refl _ _) (Nat.le_refl _) _⟩
theorem rarm_c (d : Nat) (s : St) (k : Int) (w : World) {B : Nat → Prop} (hd : RDisk w d s B) (hk : -9223372036854775808 ≤ k ∧ k ≤ 9223372036854775807) :
    Calls Tryz.prog 13 #[.pointer (some ⟨d, 0, none⟩), .int .i64 k] w (Does w B (RDiskA d { s with ahead := max k (-1) }) (.tuple #[])) := by
  obtain ⟨hok, hsort, v, h, hB⟩ := hd
  have c2 : w.cell? ⟨d, 2, none⟩ = some (.int .i64 s.ahead) := by rw [cells_at h.1]; rfl
  have f2 := cells_free h.1 2
  have key : ∀ a, a = max k (-1) → ∃ B', RDiskA d { s with ahead := max k (-1) } (w.setCell ⟨d, 2, none⟩ (.int .i64 a)) B' ∧ Nx B w B' (w.setCell ⟨d, 2, none⟩ (.int .i64 a)) := by
    intro a ha
    subst ha
    have o := Only.cell1 w d 2 (.int .i64 (max k (-1)))
    refine rd_keep hB ⟨hok.r0, hok.r1, hok.c0, by show -1 ≤ max k (-1); omega, by show max k (-1) ≤ _; omega, hok.u, hok.k, hok.n, hok.m, hok.d⟩ hsort ?_ o
    exact h.put (s' := { s with ahead := max k (-1) }) h.2 o (by rw [cells_set h.1]; rfl)
  have HK := Lib.hid key
  clear hok hsort h key hB
  go_enter Tryz.func13, Tryz.ntmps13
  go_wp2_with fail
  all_goals
    go_end0
    exact ⟨rfl, HK.out _ (by omega)⟩
theorem rwhole_none (d : Nat) (s : St) (nm : List UInt8) (v : Value) (w : World) (hm : s.fs.length ≤ 300) (h : RAt w d s v) (hg : s.get nm = none) :
    Calls Tryz.prog 72 #[.pointer (some ⟨d, 0, none⟩), .string (bs nm)] w fun e w' => e = .returned (.string ⟨#[]⟩) ∧ Gr w w' := by
  have C0 := rat_c d s nm v w hm h
  rw [place_of_none hg] at C0
  clear h
  go_enter Tryz.func72, Tryz.ntmps72
  go_wp2_with fail
  refine (C0).mono ?_; rintro e w2 ⟨rfl, g⟩
  have HG := Lib.hid g
  clear g
  go_wp2_with fail
  go_ret
  exact ⟨rfl, HG.out⟩
theorem rwhole_some (d : Nat) (s : St) (nm : List UInt8) (v : Value) (w : World) (hm : s.fs.length ≤ 300) (h : RAt w d s v) {f : F} (hg : s.get nm = some f) :
    Calls Tryz.prog 72 #[.pointer (some ⟨d, 0, none⟩), .string (bs nm)] w fun e w' => e = .returned (.string (bs f.data)) ∧ Gr w w' := by
  have C0 := rat_c d s nm v w hm h
  obtain ⟨k, hp, hat, hfn⟩ := place_of_some hg
  have hkl := (List.getElem?_eq_some_iff.1 hat).1
  rw [hp] at C0
  obtain ⟨hh, ⟨h1, _⟩ | ⟨b, off, cc, rfl, hcc, hcell⟩⟩ := h
  · exfalso; rw [h1] at hkl; exact absurd hkl (by simp)
  obtain ⟨q0, q1, q2⟩ := fall3_at s.fs k f hat
  rw [Nat.mul_comm 3 k] at q1
  have HH := Lib.hid hh
  have HCC := Lib.hid hcell
  have hdl := blk_lt2 hh
  clear hh hcell q0 q2 hat
  go_enter Tryz.func72, Tryz.ntmps72
  go_wp2_with fail
  refine (C0).mono ?_; rintro e w2 ⟨rfl, g⟩
  have c1 : w2.cell? ⟨d, 1, none⟩ = some (.slice (some ⟨b, off, none⟩) s.fs.length cc) := by rw [Below.cell g (p := ⟨d, 1, none⟩) hdl, cells_at HH.out]; rfl
  have y1 := (HCC.out.gr g).2 _ _ q1
  rw [← Nat.add_assoc] at y1
  have HG := Lib.hid g
  clear g C0
  go_wp2_with fail
  go_ret
  exact ⟨rfl, HG.out⟩
end Go.Proofs.YtojlceoeacebmaaGreat
/- The document's disk: Size, Read. -/
namespace Go.Proofs.YtojlceoeacebmaaGreat
open Go.RowKit FsPlain
set_option linter.unusedVariables false
set_option linter.unusedSimpArgs false
set_option maxRecDepth 20000
theorem bs_cut (l : List UInt8) (i k : Nat) : (bs l).extract i (i + k) = bs ((l.drop i).take k) := by
  unfold bs
  apply ByteArray.ext
  simp [ByteArray.data_extract]
set_option maxHeartbeats 2000000 in
theorem rsize_c (d : Nat) (s : St) (nm : List UInt8) (w : World) {B : Nat → Prop} (hd : RDisk w d s B) (hn : rightB nm = true) (hl : nm.length ≤ 24) (hc : s.calls ≤ 1000000000000) :
    Calls Tryz.prog 45 #[.pointer (some ⟨d, 0, none⟩), .string (bs nm)] w (Does w B (RDiskA d s.call) (.tuple #[.int .i64 (sizeR s nm).1, .int .i64 (sizeR s nm).2])) := by
  obtain ⟨hok, hsort, v, h, hB⟩ := hd
  have HBB := Lib.hid hB
  clear hB
  have C1 := rright_c (bs nm) (by rw [bs_size]; unfold maxLen; omega) w
  rw [rbs_list, hn] at C1
  have C2 := rcall_yes d s v w h.1 hok.c0 hc hok.a0 hok.a1
  have hokc := ok_call hok
  have hm : s.call.fs.length ≤ 300 := by have := hok.m; show s.fs.length ≤ 300; omega
  have HOKC := Lib.hid hokc
  have HS := Lib.hid hsort
  have H := Lib.hid h
  clear hokc hok hsort h
  unfold sizeR
  cases hdn : s.call.down
  · rw [show s.call.code = 0 by unfold St.code; rw [hdn]; rfl] at C2
    clear hdn
    have HH := Lib.hid (fun w2 (h : RAt w2 d s.call v) => rhas_c d s.call nm v w2 hm h)
    cases hg : s.get nm with
    | none =>
      have e0 : (s.call.get nm).isSome = false := by rw [show s.call.get nm = s.get nm from rfl, hg]; rfl
      rw [e0] at HH
      simp only [Bool.false_eq_true, if_false]
      clear hg e0
      go_enter Tryz.func45, Tryz.ntmps45
      go_wp2_with fail
      refine (C1).mono ?_; rintro e w2 ⟨rfl, rfl⟩
      go_wp2_with fail
      refine (C2).mono ?_; rintro e w2 ⟨rfl, hcd⟩
      have HA := Lib.hid (H.out.called hcd)
      have HO := Lib.hid hcd.2
      clear hcd
      go_wp2_with fail
      refine (HH.out w2 HA.out).mono ?_; rintro e w3 ⟨rfl, g3⟩
      have HA3 := Lib.hid (HA.out.gr g3)
      have HO3 := Lib.hid (HO.out.trans (Only.ofGr g3))
      clear g3
      go_wp2_with fail
      go_ret2
      exact ⟨rfl, rd_keep HBB.out HOKC.out HS.out HA3.out HO3.out⟩
    | some f =>
      have e0 : (s.call.get nm).isSome = true := by rw [show s.call.get nm = s.get nm from rfl, hg]; rfl
      rw [e0] at HH
      have HW := Lib.hid (fun w2 (h : RAt w2 d s.call v) => rwhole_some d s.call nm v w2 hm h (f := f) hg)
      have hfs : (bs f.data).size = f.data.length := bs_size _
      simp only [Bool.false_eq_true, if_false]
      clear hg e0
      go_enter Tryz.func45, Tryz.ntmps45
      go_wp2_with fail
      refine (C1).mono ?_; rintro e w2 ⟨rfl, rfl⟩
      go_wp2_with fail
      refine (C2).mono ?_; rintro e w2 ⟨rfl, hcd⟩
      have HA := Lib.hid (H.out.called hcd)
      have HO := Lib.hid hcd.2
      clear hcd
      go_wp2_with fail
      refine (HH.out w2 HA.out).mono ?_; rintro e w3 ⟨rfl, g3⟩
      have HA3 := Lib.hid (HA.out.gr g3)
      have HO3 := Lib.hid (HO.out.trans (Only.ofGr g3))
      clear g3
      go_wp2_with fail
      refine (HW.out w3 HA3.out).mono ?_; rintro e w4 ⟨rfl, g4⟩
      have HA4 := Lib.hid (HA3.out.gr g4)
      have HO4 := Lib.hid (HO3.out.trans (Only.ofGr g4))
      clear g4
      go_wp2_with fail
      go_ret2
      refine ⟨by first | rfl | simp [hfs], rd_keep HBB.out HOKC.out HS.out HA4.out HO4.out⟩
  · rw [show s.call.code = 5 by unfold St.code; rw [hdn]; rfl] at C2
    simp only [if_true]
    clear hdn
    go_enter Tryz.func45, Tryz.ntmps45
    go_wp2_with fail
    refine (C1).mono ?_; rintro e w2 ⟨rfl, rfl⟩
    go_wp2_with fail
    refine (C2).mono ?_; rintro e w2 ⟨rfl, hcd⟩
    have HA := Lib.hid (H.out.called hcd)
    have HO := Lib.hid hcd.2
    clear hcd
    go_wp2_with fail
    go_ret2
    exact ⟨rfl, rd_keep HBB.out HOKC.out HS.out HA.out HO.out⟩
set_option maxHeartbeats 2000000 in
theorem rread_c (d : Nat) (s : St) (nm : List UInt8) (i k : Nat) (w : World) {B : Nat → Prop} (hd : RDisk w d s B) (hn : rightB nm = true) (hl : nm.length ≤ 24) (hc : s.calls ≤ 1000000000000) (hi : i ≤ 1000000000) (hk : k ≤ 1000000000) :
    Calls Tryz.prog 46 #[.pointer (some ⟨d, 0, none⟩), .string (bs nm), .int .i64 (i : Int), .int .i64 (k : Int)] w (Does w B (RDiskA d s.call) (.tuple #[.string (bs (readR s nm i k).1), .int .i64 (readR s nm i k).2])) := by
  obtain ⟨hok, hsort, v, h, hB⟩ := hd
  have HBB := Lib.hid hB
  clear hB
  have C1 := rright_c (bs nm) (by rw [bs_size]; unfold maxLen; omega) w
  rw [rbs_list, hn] at C1
  have C2 := rcall_yes d s v w h.1 hok.c0 hc hok.a0 hok.a1
  have hokc := ok_call hok
  have hm : s.call.fs.length ≤ 300 := by have := hok.m; show s.fs.length ≤ 300; omega
  have HOKC := Lib.hid hokc
  have HS := Lib.hid hsort
  have H := Lib.hid h
  clear hokc hok hsort h
  have hi0 : (0 : Int) ≤ (i : Int) := by omega
  have hk0 : (0 : Int) ≤ (k : Int) := by omega
  unfold readR
  cases hdn : s.call.down
  · rw [show s.call.code = 0 by unfold St.code; rw [hdn]; rfl] at C2
    clear hdn
    have HT := Lib.hid (fun w2 (h : RAt w2 d s.call v) => rat_c d s.call nm v w2 hm h)
    cases hg : s.get nm with
    | none =>
      have e0 : placeF nm s.call.fs = -1 := place_of_none hg
      rw [e0] at HT
      simp only [Bool.false_eq_true, if_false]
      clear hg e0
      go_enter Tryz.func46, Tryz.ntmps46
      go_wp2_with fail
      refine (C1).mono ?_; rintro e w2 ⟨rfl, rfl⟩
      go_wp2_with fail
      refine (C2).mono ?_; rintro e w2 ⟨rfl, hcd⟩
      have HA := Lib.hid (H.out.called hcd)
      have HO := Lib.hid hcd.2
      clear hcd
      go_wp2_with fail
      refine (HT.out w2 HA.out).mono ?_; rintro e w3 ⟨rfl, g3⟩
      have HA3 := Lib.hid (HA.out.gr g3)
      have HO3 := Lib.hid (HO.out.trans (Only.ofGr g3))
      clear g3
      go_wp2_with fail
      go_ret2
      exact ⟨rfl, rd_keep HBB.out HOKC.out HS.out HA3.out HO3.out⟩
    | some f =>
      obtain ⟨j, hp, hat, hfn⟩ := place_of_some hg
      have hjl := (List.getElem?_eq_some_iff.1 hat).1
      have e0 : placeF nm s.call.fs = (j : Int) := hp
      rw [e0] at HT
      have hfs : (bs f.data).size = f.data.length := bs_size _
      have hfl : f.data.length ≤ 16777216 := by have := used_le (List.mem_of_getElem? hat); have := HOKC.out.u; have := HOKC.out.r1; have e : s.call.room = s.room := rfl; have e2 : used s.call.fs = used s.fs := rfl; omega
      have HAT := Lib.hid hat
      have hjm : s.fs.length ≤ 300 := hm
      simp only [Bool.false_eq_true, if_false]
      obtain ⟨R, hR⟩ : ∃ R, (if f.data.length < i + k then (([] : List UInt8), (10 : Int)) else ((f.data.drop i).take k, 0)) = R := ⟨_, rfl⟩
      rw [hR]
      have HR := Lib.hid hR
      clear hg e0 hp hat hR
      go_enter Tryz.func46, Tryz.ntmps46
      go_wp2_with fail
      refine (C1).mono ?_; rintro e w2 ⟨rfl, rfl⟩
      go_wp2_with fail
      refine (C2).mono ?_; rintro e w2 ⟨rfl, hcd⟩
      have HA := Lib.hid (H.out.called hcd)
      have HO := Lib.hid hcd.2
      clear hcd
      go_wp2_with fail
      refine (HT.out w2 HA.out).mono ?_; rintro e w3 ⟨rfl, g3⟩
      have HA3 := Lib.hid (HA.out.gr g3)
      have HO3 := Lib.hid (HO.out.trans (Only.ofGr g3))
      obtain ⟨hh, ⟨h1, _⟩ | ⟨b, off, cc, rfl, hcc, hcell⟩⟩ := HA3.out
      · exfalso; rw [show s.call.fs = s.fs from rfl] at h1; rw [h1] at hjl; exact absurd hjl (by simp)
      obtain ⟨q0, q1, q2⟩ := fall3_at s.fs j f HAT.out
      rw [Nat.mul_comm 3 j] at q1
      have y1 := hcell.2 _ _ q1
      rw [← Nat.add_assoc] at y1
      have hcc' : s.fs.length ≤ cc := hcc
      have c1 : w3.cell? ⟨d, 1, none⟩ = some (.slice (some ⟨b, off, none⟩) s.fs.length cc) := by rw [cells_at hh]; rfl
      have hj0 : (0 : Int) ≤ (j : Int) := by omega
      have hj1 : (j : Int) < (s.fs.length : Int) := by omega
      clear g3 hh hcell q0 q1 q2
      by_cases hr : f.data.length < i + k
      · have hR := HR.out
        rw [if_pos hr] at hR
        subst hR
        by_cases hr1 : (f.data.length : Int) < (i : Int)
        · go_wp2_with fail
          go_ret2
          exact ⟨rfl, rd_keep HBB.out HOKC.out HS.out HA3.out HO3.out⟩
        · have hr2 : (f.data.length : Int) - (i : Int) < (k : Int) := by omega
          go_wp2_with fail
          go_ret2
          exact ⟨rfl, rd_keep HBB.out HOKC.out HS.out HA3.out HO3.out⟩
      · have hR := HR.out
        rw [if_neg hr] at hR
        have hrs : (bs R.1).size = k := by rw [bs_size, ← hR]; simp; omega
        have HRR := Lib.hid hR
        clear hR
        have hr1 : ¬ (f.data.length : Int) < (i : Int) := by omega
        have hr2 : ¬ (f.data.length : Int) - (i : Int) < (k : Int) := by omega
        have hr3 : (i : Int) + (k : Int) ≤ (f.data.length : Int) := by omega
        go_wp2_with fail
        have hx : (bs f.data).extract i (i + k) = bs R.1 := by rw [← HRR.out]; exact bs_cut f.data i k
        have h2 : R.2 = 0 := by rw [← HRR.out]
        rw [hx, h2]
        go_ret2
        exact ⟨rfl, rd_keep HBB.out HOKC.out HS.out HA3.out HO3.out⟩
  · rw [show s.call.code = 5 by unfold St.code; rw [hdn]; rfl] at C2
    simp only [if_true]
    clear hdn
    go_enter Tryz.func46, Tryz.ntmps46
    go_wp2_with fail
    refine (C1).mono ?_; rintro e w2 ⟨rfl, rfl⟩
    go_wp2_with fail
    refine (C2).mono ?_; rintro e w2 ⟨rfl, hcd⟩
    have HA := Lib.hid (H.out.called hcd)
    have HO := Lib.hid hcd.2
    clear hcd
    go_wp2_with fail
    go_ret2
    exact ⟨rfl, rd_keep HBB.out HOKC.out HS.out HA.out HO.out⟩
theorem r_size (d : Nat) (s : St) (n : ByteArray) (hn : n.size ≤ 24) (hm : rightB n.data.toList = true) (h1 : s.calls ≤ 1000000000000) (w : World) (B : Nat → Prop) (h : RDiskA d s w B) :
    Calls Tryz.prog 45 #[.pointer (some ⟨d, 0, none⟩), .string n] w (Does w B (RDiskA d s.call) (.tuple #[.int .i64 (sizeR s n.data.toList).1, .int .i64 (sizeR s n.data.toList).2])) := by
  have C := rsize_c d s n.data.toList w h hm (by rw [show n.data.toList.length = n.size from Array.length_toList]; exact hn) h1
  rwa [bs_toList] at C
theorem r_read (d : Nat) (s : St) (n : ByteArray) (i k : Nat) (hn : n.size ≤ 24) (hm : rightB n.data.toList = true) (h1 : s.calls ≤ 1000000000000) (hi : i ≤ 1000000000) (hk : k ≤ 1000000000) (w : World) (B : Nat → Prop) (h : RDiskA d s w B) :
    Calls Tryz.prog 46 #[.pointer (some ⟨d, 0, none⟩), .string n, .int .i64 (i : Int), .int .i64 (k : Int)] w (Does w B (RDiskA d s.call) (.tuple #[.string (bs (readR s n.data.toList i k).1), .int .i64 (readR s n.data.toList i k).2])) := by
  have C := rread_c d s n.data.toList i k w h hm (by rw [show n.data.toList.length = n.size from Array.length_toList]; exact hn) h1 hi hk
  rwa [bs_toList] at C
end Go.Proofs.YtojlceoeacebmaaGreat
/- The document's reader: its parts, shut, wrong, Close. -/
namespace Go.Proofs.YtojlceoeacebmaaGreat
open Go.RowKit FsPlain CrcPlain OctPlain FramePlain RecPlain RdPlain
set_option linter.unusedVariables false
set_option linter.unusedSimpArgs false
set_option maxRecDepth 20000
def rdcells (D P : Nat) (y : Rs) (vq va : Value) : Array Value := #[.pointer (some ⟨D, 0, none⟩), .pointer (some ⟨P, 0, none⟩), .string y.nm, .int .i64 y.size, .int .i64 y.pos, .int .i64 y.left, vq, va, .int .i64 y.told, .bool y.opn, .bool y.bad, .bool y.whole, .bool y.short, .int .i64 y.ec, .int .u32 y.em]
/-- The five parts. -/
def rdl (x D P : Nat) (s : St) (b : Bu) (c : Array Value) (vq va : Value) (queue all : List ByteArray) : List Asn := [Blk x c 56, QueA vq queue, RowA va all, RDiskA D s, RBuA P b]
theorem frs_rdl (x D P : Nat) (s : St) (b : Bu) (c : Array Value) (vq va : Value) (queue all : List ByteArray) : Frs (rdl x D P s b c vq va queue all) := ⟨fr_blk _ _ _, fr_que _ _, fr_row _ _, fr_rdisk _ _, fr_rbu _ _, trivial⟩
/-- The document's reader, its disk, its budget. -/
def RR3 (x D P : Nat) (m : N3) : Asn := fun w B => ∃ vq va, stars (rdl x D P m.s m.b (rdcells D P m.x vq va) vq va m.x.queue m.x.all) w B
theorem fr_rr3 (x D P : Nat) (m : N3) : Fr (RR3 x D P m) := ⟨fun ⟨vq, va, h⟩ o d => ⟨vq, va, (fr_stars (frs_rdl _ _ _ _ _ _ _ _ _ _)).fr h o d⟩, fun ⟨vq, va, h⟩ => (fr_stars (frs_rdl _ _ _ _ _ _ _ _ _ _)).lo h⟩
theorem rdl_blk {x D P : Nat} {s : St} {b : Bu} {c : Array Value} {vq va : Value} {queue all : List ByteArray} {w : World} {B : Nat → Prop} (h : stars (rdl x D P s b c vq va queue all) w B) : w.heap[x]? = some (.cells c 56 (0, 0)) := by
  obtain ⟨_, h, _⟩ := part_at 0 rfl h
  exact h.1
theorem rdl_set {x D P : Nat} {s : St} {b : Bu} {c c' : Array Value} {vq va : Value} {queue all : List ByteArray} {w : World} {B : Nat → Prop} (i : Nat) (u : Value) (h : stars (rdl x D P s b c vq va queue all) w B) (hc : c.setIfInBounds i u = c') :
    ∃ B', stars (rdl x D P s b c' vq va queue all) (w.setCell ⟨x, i, none⟩ u) B' ∧ Nx B w B' (w.setCell ⟨x, i, none⟩ u) :=
  step_at (Q := Blk x c' 56) 0 rfl (frs_rdl _ _ _ _ _ _ _ _ _ _) h fun B1 h1 => by rw [← hc]; exact blk_next h1 u
theorem rr_shut (x D P : Nat) (m : N3) (w : World) (B : Nat → Prop) (h : RR3 x D P m w B) :
    Calls Tryz.prog 52 #[.pointer (some ⟨x, 0, none⟩)] w (Does w B (RR3 x D P (shutN m)) (.tuple #[])) := by
  obtain ⟨vq, va, h⟩ := h
  have hb := rdl_blk h
  have c1 : w.cell? ⟨x, 1, none⟩ = some (.pointer (some ⟨P, 0, none⟩)) := by rw [cells_at hb]; rfl
  have c9 : w.cell? ⟨x, 9, none⟩ = some (.bool m.x.opn) := by rw [cells_at hb]; rfl
  have f9 := cells_free hb 9
  have H := Lib.hid h
  clear h hb
  cases ho : m.x.opn
  · have e : shutN m = m := by unfold shutN; rw [ho]; rfl
    rw [e]
    rw [ho] at c9
    clear ho e
    go_enter Tryz.func52, Tryz.ntmps52
    go_wp2_with fail
    go_end0
    exact ⟨rfl, B, ⟨_, _, H.out⟩, Nx.refl _ _⟩
  · rw [ho] at c9
    have e : shutN m = ⟨m.s, m.b.give 4, { m.x with opn := false }⟩ := by unfold shutN; rw [ho]; rfl
    rw [e]
    obtain ⟨W, hW⟩ : ∃ W, W = w.setCell ⟨x, 9, none⟩ (.bool false) := ⟨_, rfl⟩
    have h1 : ∃ B', stars (rdl x D P m.s m.b (rdcells D P { m.x with opn := false } vq va) vq va m.x.queue m.x.all) W B' ∧ Nx B w B' W := by
      rw [hW]; exact rdl_set 9 (.bool false) H.out rfl
    obtain ⟨B1, h1, n1⟩ := h1
    have C := does_at (f := 48) (Q := RBuA P (m.b.give 4)) 4 rfl (frs_rdl _ _ _ _ _ _ _ _ _ _) h1 fun B2 h2 => rbu_give P m.b 4 W B2 h2 (by decide)
    have CH := Lib.hid C
    have HW := Lib.hid hW
    have HN := Lib.hid n1
    clear ho e h1 n1 hW C
    go_enter Tryz.func52, Tryz.ntmps52
    go_wp2_with fail
    rw [← HW.out]
    refine CH.out.mono ?_; rintro e w2 hd
    obtain ⟨rfl, B2, h2, n2⟩ := hd
    have H2 := Lib.hid h2
    have N2 := Lib.hid n2
    clear h2 n2 CH
    go_wp2_with fail
    go_end0
    exact ⟨rfl, B2, ⟨_, _, H2.out⟩, HN.out.trans N2.out⟩
theorem rr_wrong (x D P : Nat) (m : N3) (ec : Int) (w : World) (B : Nat → Prop) (h : RR3 x D P m w B) :
    Calls Tryz.prog 57 #[.pointer (some ⟨x, 0, none⟩), .int .i64 ec] w (Does w B (RR3 x D P (wrongN m)) (.tuple #[.string ⟨#[]⟩, .bool false, .int .i64 ec])) := by
  obtain ⟨vq, va, h⟩ := h
  have hb := rdl_blk h
  have c10 : w.cell? ⟨x, 10, none⟩ = some (.bool m.x.bad) := by rw [cells_at hb]; rfl
  have f10 := cells_free hb 10
  obtain ⟨W, hW⟩ : ∃ W, W = w.setCell ⟨x, 10, none⟩ (.bool true) := ⟨_, rfl⟩
  have h1 : ∃ B', RR3 x D P m.isBad W B' ∧ Nx B w B' W := by
    rw [hW]
    obtain ⟨B', h', n'⟩ := rdl_set (c' := rdcells D P m.isBad.x vq va) 10 (.bool true) h rfl
    exact ⟨B', ⟨_, _, h'⟩, n'⟩
  obtain ⟨B1, h1, n1⟩ := h1
  have CH := Lib.hid (rr_shut x D P m.isBad W B1 h1)
  have HW := Lib.hid hW
  have HN := Lib.hid n1
  clear h hb h1 n1 hW
  go_enter Tryz.func57, Tryz.ntmps57
  go_wp2_with fail
  rw [← HW.out]
  refine CH.out.mono ?_; rintro e w2 hd
  obtain ⟨rfl, B2, h2, n2⟩ := hd
  have H2 := Lib.hid h2
  have N2 := Lib.hid n2
  clear h2 n2 CH
  go_wp2_with fail
  refine bodyPost_ret (v := .tuple #[.string ⟨#[]⟩, .bool false, .int .i64 ec]) (by simp [results, Tryz.results57, go_sem]) rfl ⟨rfl, B2, H2.out, HN.out.trans N2.out⟩
theorem rr_close (x D P : Nat) (m : N3) (w : World) (B : Nat → Prop) (h : RR3 x D P m w B) :
    Calls Tryz.prog 19 #[.pointer (some ⟨x, 0, none⟩)] w (Does w B (RR3 x D P (closeN m)) (.tuple #[])) := by
  have H := Lib.hid h
  obtain ⟨vq, va, h⟩ := h
  have hb := rdl_blk h
  have c9 : w.cell? ⟨x, 9, none⟩ = some (.bool m.x.opn) := by rw [cells_at hb]; rfl
  have c10 : w.cell? ⟨x, 10, none⟩ = some (.bool m.x.bad) := by rw [cells_at hb]; rfl
  have f10 := cells_free hb 10
  cases ho : m.x.opn
  · have e : closeN m = shutN m := by unfold closeN shutN; rw [ho]; rfl
    rw [e]
    rw [ho] at c9
    have CH := Lib.hid (rr_shut x D P m w B H.out)
    clear ho e h hb
    go_enter Tryz.func19, Tryz.ntmps19
    go_wp2_with fail
    refine CH.out.mono ?_; rintro e w2 hd
    obtain ⟨rfl, B2, h2, n2⟩ := hd
    have H2 := Lib.hid h2
    have N2 := Lib.hid n2
    clear h2 n2 CH
    go_wp2_with fail
    go_end0
    exact ⟨rfl, B2, H2.out, N2.out⟩
  · have e : closeN m = wrongN m := by unfold closeN; rw [ho]; rfl
    rw [e]
    rw [ho] at c9
    obtain ⟨W, hW⟩ : ∃ W, W = w.setCell ⟨x, 10, none⟩ (.bool true) := ⟨_, rfl⟩
    have h1 : ∃ B', RR3 x D P m.isBad W B' ∧ Nx B w B' W := by
      rw [hW]
      obtain ⟨B', h', n'⟩ := rdl_set (c' := rdcells D P m.isBad.x vq va) 10 (.bool true) h rfl
      exact ⟨B', ⟨_, _, h'⟩, n'⟩
    obtain ⟨B1, h1, n1⟩ := h1
    have CH := Lib.hid (rr_shut x D P m.isBad W B1 h1)
    have HW := Lib.hid hW
    have HN := Lib.hid n1
    clear ho e h hb h1 n1 hW
    go_enter Tryz.func19, Tryz.ntmps19
    go_wp2_with fail
    rw [← HW.out]
    refine CH.out.mono ?_; rintro e w2 hd
    obtain ⟨rfl, B2, h2, n2⟩ := hd
    have H2 := Lib.hid h2
    have N2 := Lib.hid n2
    clear h2 n2 CH
    go_wp2_with fail
    go_end0
    exact ⟨rfl, B2, H2.out, HN.out.trans N2.out⟩
end Go.Proofs.YtojlceoeacebmaaGreat
/- The document's reader: Next, of what waits. -/
namespace Go.Proofs.YtojlceoeacebmaaGreat
open Go.RowKit FsPlain CrcPlain OctPlain FramePlain RecPlain RdPlain
set_option linter.unusedVariables false
set_option linter.unusedSimpArgs false
set_option maxRecDepth 20000
/-- Behind the two stores of a pop. -/
theorem pop_step {x D P b off n c : Nat} {s : St} {bu : Bu} {y : Rs} {va : Value} {r : ByteArray} {l : List ByteArray} {w : World} {B : Nat → Prop} (h : stars (rdl x D P s bu (rdcells D P y (.slice (some ⟨b, off, none⟩) n c) va) (.slice (some ⟨b, off, none⟩) n c) va y.queue y.all) w B) (hrl : y.queue = r :: l) (a : Option Addr) (m k : Nat) (hm : m = l.length) (hk : m ≤ k) (ha : 1 ≤ l.length → a = some ⟨b, off + 1, none⟩) (hz : ∀ b' off', a = some ⟨b', off', none⟩ → b' = b) (t : Int) (ht : t = (y.told : Int) + 1) :
    ∃ B', RR3 x D P ⟨s, bu, { y with queue := y.queue.tail, told := y.told + 1 }⟩ ((w.setCell ⟨x, 6, none⟩ (.slice a m k)).setCell ⟨x, 8, none⟩ (.int .i64 t)) B' ∧ Nx B w B' ((w.setCell ⟨x, 6, none⟩ (.slice a m k)).setCell ⟨x, 8, none⟩ (.int .i64 t)) := by
  have h0 : ∃ B', stars (rdl x D P s bu (rdcells D P y (.slice (some ⟨b, off, none⟩) n c) va) (.slice a m k) va l y.all) w B' ∧ Nx B w B' w :=
    step_at (Q := QueA (.slice a m k) l) 1 rfl (frs_rdl _ _ _ _ _ _ _ _ _ _) h fun B1 h1 => ⟨B1, que_tail (by rw [hrl] at h1; exact h1) a m k hm hk ha hz, Nx.refl _ _⟩
  obtain ⟨B0, h0, n0⟩ := h0
  obtain ⟨B1, h1, n1⟩ := rdl_set (c' := rdcells D P y (.slice a m k) va) 6 (.slice a m k) h0 rfl
  obtain ⟨B2, h2, n2⟩ := rdl_set (c' := rdcells D P { y with queue := y.queue.tail, told := y.told + 1 } (.slice a m k) va) 8 (.int .i64 t) h1 (by rw [ht]; rfl)
  have e : l = y.queue.tail := by rw [hrl]; rfl
  rw [e] at h2
  exact ⟨B2, ⟨.slice a m k, va, h2⟩, (n0.trans n1).trans n2⟩
set_option maxHeartbeats 2000000 in
theorem rr_pop (x D P : Nat) (m : N3) (hok : m.ok) (ho : m.x.opn = true) (hq : m.x.queue ≠ []) (ht : m.x.told ≤ 100000) (w : World) (B : Nat → Prop) (h : RR3 x D P m w B) :
    Calls Tryz.prog 21 #[.pointer (some ⟨x, 0, none⟩)] w (Does w B (RR3 x D P (popN m).1) (ansV (popN m).2)) := by
  obtain ⟨vq, va, h⟩ := h
  obtain ⟨_, hqa, _⟩ := part_at 1 rfl h
  obtain ⟨b, off, c, rfl, hc, hr, _⟩ := que_open hqa hq
  obtain ⟨r, l, hrl⟩ := List.exists_cons_of_ne_nil hq
  have y0 : w.cell? ⟨b, off, none⟩ = some (.string r) := by have := hr.2 0 r (by rw [hrl]; rfl); simpa using this
  have hb := rdl_blk h
  obtain ⟨n, hn⟩ : ∃ n, m.x.queue.length = n := ⟨_, rfl⟩
  have hn1 : 1 ≤ n := by rw [← hn, hrl]; simp
  have hn4 : n ≤ 4 := by rw [← hn]; exact hok.ql
  have hn0 : ¬ (n : Int) = 0 := by omega
  have c9 : w.cell? ⟨x, 9, none⟩ = some (.bool true) := by rw [cells_at hb, ← ho]; rfl
  have c6 : w.cell? ⟨x, 6, none⟩ = some (.slice (some ⟨b, off, none⟩) n c) := by rw [cells_at hb, ← hn]; rfl
  have c8 : w.cell? ⟨x, 8, none⟩ = some (.int .i64 m.x.told) := by rw [cells_at hb]; rfl
  have f6 := cells_free hb 6
  have f8 := cells_free hb 8
  have H := Lib.hid h
  have HN := Lib.hid hn
  have HRL := Lib.hid hrl
  rw [hn] at hc
  clear h hqa hr hb hn hrl ho hq hok
  go_enter Tryz.func21, Tryz.ntmps21
  go_wp2_with fail
  · have hnl : n - 1 = l.length := by have := HN.out; rw [HRL.out] at this; simp at this; omega
    obtain ⟨B2, h2, n2⟩ := pop_step (a := some ⟨b, off, none⟩) (m := n - 1) (k := 0) (by have := H.out; rw [HN.out] at this; exact this) HRL.out hnl (by omega) (fun h => by omega) (fun b' off' e => by simp at e; exact e.1.symm) ((m.x.told : Int) + 1) rfl
    have hv : (popN m).2 = (r, true, 0) := by unfold popN; rw [HRL.out]; rfl
    rw [hv]
    exact bodyPost_ret (v := ansV (r, true, 0)) (by simp [results, Tryz.results21, go_sem, ansV]) rfl ⟨rfl, B2, h2, n2⟩
  · have hnl : n - 1 = l.length := by have := HN.out; rw [HRL.out] at this; simp at this; omega
    obtain ⟨B2, h2, n2⟩ := pop_step (a := some ⟨b, off + 1, none⟩) (m := n - 1) (k := c - 1) (by have := H.out; rw [HN.out] at this; exact this) HRL.out hnl (by omega) (fun h => rfl) (fun b' off' e => by simp at e; exact e.1.symm) ((m.x.told : Int) + 1) rfl
    have hv : (popN m).2 = (r, true, 0) := by unfold popN; rw [HRL.out]; rfl
    rw [hv]
    exact bodyPost_ret (v := ansV (r, true, 0)) (by simp [results, Tryz.results21, go_sem, ansV]) rfl ⟨rfl, B2, h2, n2⟩
end Go.Proofs.YtojlceoeacebmaaGreat
