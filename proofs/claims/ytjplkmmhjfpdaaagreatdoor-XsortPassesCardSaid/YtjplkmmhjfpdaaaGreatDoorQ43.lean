/- In one text: XsProg, XsLaw, RfsRight, MgAwake, XsAwake. -/
import Derived.Test.YtjplkmmhjfpdaaaGreatDoorQ42
import Derived.Test.YtjplkmmhjfpdaaaGreatDoorQ24
import Derived.Test.YtjplkmmhjfpdaaaGreatDoorQ30
import Derived.Test.YtjplkmmhjfpdaaaGreatDoorQ10
import Derived.Test.YtjplkmmhjfpdaaaGreatDoorQ38
import Derived.Test.YtjplkmmhjfpdaaaGreatDoorQ14
import Derived.Test.YtjplkmmhjfpdaaaGreatDoorQ15
import Derived.Test.YtjplkmmhjfpdaaaGreatDoorQ16
/- The program's Sort. -/
namespace Go.Proofs.YtjplkmmhjfpdaaaGreatDoor
open Go.RowKit FsPlain CrcPlain OctPlain FramePlain RecPlain RdPlain RnPlain WrPlain XsPlain
set_option linter.unusedVariables false
set_option linter.unusedSimpArgs false
set_option maxRecDepth 20000
theorem xs_less {s0 : St} {b0 : Bu} {C inn out : ByteArray} {size : Int} {u : Bool} (hok : s0.ok) (h : b0.m - b0.now < 16) : SortR s0 b0 C inn out size u s0 b0 0 0 9 :=
  xs_err (by decide) hok rfl rfl (by omega) (Off.refl _ _) (fun _ => rfl) (fun _ _ k => by omega) (fun _ _ k => by omega)
theorem xs_fell {s0 : St} {b0 : Bu} {C inn out : ByteArray} {size : Int} {u : Bool} (hok : s0.ok) (h16 : 16 ≤ b0.m - b0.now) (hd : s0.call.down = true) : SortR s0 b0 C inn out size u s0.call b0 0 0 5 := by
  refine xs_err (by decide) (ok_call hok) rfl rfl (by show s0.calls + 1 ≤ _; omega) (off_call _ s0) (fun k => by omega) (fun _ _ _ => .inr rfl) fun L' hL' _ a1 _ _ _ => ?_
  have := (calm_call a1).2
  rw [hd] at this
  cases this
theorem sort_out {fn : Func} {D P o : Nat} {s0 : St} {b0 : Bu} {C inn out : ByteArray} {size : Int} {u : Bool} {s : St} {b : Bu} {k c er : Int} {M : List Asn} {w : World} {B : Nat → Prop} {a : Act} {w1 : World} {B1 : Nat → Prop} (hS : SortR s0 b0 C inn out size u s b k c er) (h : stars ([DiskA D s, BuA P b] ++ (Blk o #[.int .i64 k, .int .u32 c] 37 :: M)) w1 B1) (n : Nx B w B1 w1) (hfn : fn.results = #[.cell 12 37, .tmp 13]) (h12 : a.tmps.getD 12 undef = .pointer (some ⟨o, 0, none⟩)) (h13 : a.tmps.getD 13 undef = .int .i64 er) (hd : a.defers = []) : bodyPost Tryz.prog fn (SortGot D P s0 b0 C inn out size u M w B) .ret a w1 := by
  obtain ⟨_, hb, _⟩ := part_at 2 rfl h
  have c0 : w1.cell? ⟨o, 0, none⟩ = some (.int .i64 k) := by rw [cells_at hb.1]; rfl
  have c1 : w1.cell? ⟨o, 1, none⟩ = some (.int .u32 c) := by rw [cells_at hb.1]; rfl
  obtain ⟨B6, h6, n6⟩ := drop_db h
  exact bodyPost_ret (info_results hfn h12 h13 c0 c1) hd ⟨s, b, k, c, er, rfl, hS, B6, h6, n.trans n6⟩
theorem out_set {D P o : Nat} {s : St} {b : Bu} {M : List Asn} {w : World} {B : Nat → Prop} (k c : Int) (hM : Frs M) (h : stars ([DiskA D s, BuA P b] ++ (Blk o zInfo 37 :: M)) w B) :
    (w.cell? ⟨o, 0, none⟩ = some (.int .i64 0) ∧ w.cell? ⟨o, 1, none⟩ = some (.int .u32 0) ∧ w.frozen? ⟨o, 0, none⟩ = false ∧ w.frozen? ⟨o, 1, none⟩ = false ∧ o < w.heap.size) ∧ ∃ B', stars ([DiskA D s, BuA P b] ++ (Blk o #[.int .i64 k, .int .u32 c] 37 :: M)) ((w.setCell ⟨o, 0, none⟩ (.int .i64 k)).setCell ⟨o, 1, none⟩ (.int .u32 c)) B' ∧ Nx B w B' ((w.setCell ⟨o, 0, none⟩ (.int .i64 k)).setCell ⟨o, 1, none⟩ (.int .u32 c)) := by
  obtain ⟨_, hb, _⟩ := part_at 2 rfl h
  obtain ⟨B5, h5, n5, _, _⟩ := info_set0 (k := k) (c := c) (fr_disk _ _) (fr_bu _ _) hM h
  exact ⟨⟨by rw [cells_at hb.1]; rfl, by rw [cells_at hb.1]; rfl, cells_free hb.1 0, cells_free hb.1 1, lt_of_block hb.1⟩, B5, h5, n5⟩
set_option maxHeartbeats 16000000 in
theorem sort18_c {D P : Nat} {s : St} {b : Bu} {C inn out : ByteArray} {size : Int} (hz : I64 size) (u : Bool) (hC : HasD s inn.data.toList C) (hCz : C.size ≤ 5000) (hN : Names18 s inn out) (hc : s.calls ≤ 999999) {w : World} {B : Nat → Prop} {M : List Asn} (hM : Frs M) (hT : TabB w B) (h : stars ([DiskA D s, BuA P b] ++ M) w B) :
    Calls Tryz.prog 13 #[.pointer (some ⟨D, 0, none⟩), .pointer (some ⟨P, 0, none⟩), .string inn, .string out, .int .i64 size, .bool u] w (SortGot D P s b C inn out size u M w B) := by
  have hsok : s.ok := by
    obtain ⟨_, hd, _⟩ := part_at 0 rfl h
    exact hd.1
  obtain ⟨BW, kW, nW⟩ : ∃ B', stars ([DiskA D s, BuA P b] ++ (Blk w.heap.size zInfo 37 :: M)) (w.alloc (.cells #[.int .i64 0, .int .u32 0] 37)) B' ∧ Nx B w B' (w.alloc (.cells #[.int .i64 0, .int .u32 0] 37)) := by
    obtain ⟨B3, k3, n3⟩ := part_new (P := Blk w.heap.size zInfo 37) (B' := fun b => b = w.heap.size) (L := [DiskA D s, BuA P b] ++ M) (frs_app (frs_db17 D P s b) hM) h (gral17 w (.cells #[.int .i64 0, .int .u32 0] 37)) ⟨heap_alloc_new w _, fun _ => Iff.rfl⟩ (fun b hb => by rw [hb]; exact Nat.le_refl _)
    exact ⟨B3, stars_perm (perm_in [] [DiskA D s, BuA P b] M _).symm k3, n3⟩
  obtain ⟨hbok, hbl⟩ : b.ok ∧ ∃ B1, BuA P b (w.alloc (.cells #[.int .i64 0, .int .u32 0] 37)) B1 := by
    obtain ⟨_, hb, _⟩ := part_at 1 rfl kW
    exact ⟨hb.1, _, hb⟩
  obtain ⟨_, hbl⟩ := hbl
  have BL := Lib.hid (bleft_c P b _ hbl.at)
  obtain ⟨lf, hlf⟩ : ∃ lf, b.m - b.now = lf := ⟨_, rfl⟩
  rw [hlf] at BL
  have hlr : lf ≤ 9223372036854775807 := by have h1 := hbok.m1; have h2 := hbok.n0; omega
  have K := Lib.hid (show I64 size ∧ HasD s inn.data.toList C ∧ C.size ≤ 5000 ∧ Names18 s inn out ∧ s.calls ≤ 999999 ∧ Frs M ∧ TabB w B ∧ s.ok ∧ b.m - b.now = lf ∧ 0 ≤ s.calls from ⟨hz, hC, hCz, hN, hc, hM, hT, hsok, hlf, hsok.c0⟩)
  have KW := Lib.hid kW
  have NW := Lib.hid nW
  clear hz hC hCz hN hc hM hT h hsok hbok hbl hlf kW nW
  by_cases h16 : lf < 16
  · go_enter Tryz.func13, Tryz.ntmps13
    go_wp2_with fail
    refine BL.out.mono ?_; rintro e w1 ⟨rfl, g1⟩
    have h1 := stars_gr (show Frs ([DiskA D s, BuA P b] ++ (Blk w.heap.size zInfo 37 :: M)) from frs_dm D P s b ⟨fr_blk _ _ _, K.out.2.2.2.2.2.1⟩) KW.out g1
    obtain ⟨⟨c0, c1, f0, f1, hlb⟩, T3⟩ := out_set 0 0 K.out.2.2.2.2.2.1 h1
    have T3 := Lib.hid T3
    have G1 := Lib.hid g1
    clear h1 g1 BL
    go_wp2_with fail
    obtain ⟨B5, h5, n5⟩ := T3.out
    exact sort_out (xs_less K.out.2.2.2.2.2.2.2.1 (by have := K.out.2.2.2.2.2.2.2.2.1; omega)) h5 ((NW.out.trans (Nx.gr G1.out)).trans n5) rfl rfl rfl rfl
  · have hfan := fan_range (left := lf) (by omega)
    obtain ⟨f, hf⟩ : ∃ f : Nat, fanN lf = (f : Int) := ⟨(fanN lf).toNat, by omega⟩
    have FAN := Lib.hid (fun v => fan18_c lf (by omega) hlr v)
    have LEN := Lib.hid (fun v => length18_c lf (by omega) hlr v)
    rw [hf] at FAN hfan
    have HF := Lib.hid hfan
    have h16I : 16 ≤ lf := by omega
    have H16 := Lib.hid (show 16 ≤ b.m - b.now by have := K.out.2.2.2.2.2.2.2.2.1; omega)
    clear hfan hf
    go_enter Tryz.func13, Tryz.ntmps13
    go_wp2_with fail
    refine BL.out.mono ?_; rintro e w1 ⟨rfl, g1⟩
    have FM1 : Frs (Blk w.heap.size zInfo 37 :: M) := ⟨fr_blk _ _ _, K.out.2.2.2.2.2.1⟩
    have FMH := Lib.hid FM1
    have SW := Lib.hid (sweep18_c (inn := inn) (out := out) K.out.2.2.2.1 (by have := K.out.2.2.2.2.1; omega) FM1 (stars_gr (show Frs ([DiskA D s, BuA P b] ++ (Blk w.heap.size zInfo 37 :: M)) from frs_dm D P s b FM1) KW.out g1))
    have N1 := Lib.hid (NW.out.trans (Nx.gr g1))
    clear g1 BL KW NW FM1
    go_wp2_with fail
    refine SW.out.mono ?_; rintro e w2 ⟨er, rfl, he, B2, h2, n2⟩
    by_cases h0 : er = 0
    · subst h0
      obtain ⟨pre, hpre, BC⟩ := begin18_c inn out (by have := K.out.2.2.2.1.ri.2; omega) (by have := K.out.2.2.2.1.ro.2; omega) w2
      have BC := Lib.hid BC
      obtain ⟨B3, h3, n3⟩ := part_new (P := RoadA w2.heap.size D P pre size u 0) (B' := fun b => b = w2.heap.size) (L := [DiskA D s.call, BuA P b] ++ (Blk w.heap.size zInfo 37 :: M)) (frs_dm D P s.call b FMH.out) h2 (gral17 w2 (.cells (roadC D P pre size u 0) 82)) ⟨heap_alloc_new w2 _, fun _ => Iff.rfl⟩ (fun b hb => by rw [hb]; exact Nat.le_refl _)
      have H3 := Lib.hid (stars_perm (List.perm_middle (l₁ := [DiskA D s.call, BuA P b])).symm h3)
      have N3 := Lib.hid ((N1.out.trans n2).trans n3)
      have HP := Lib.hid hpre
      clear he h2 n2 h3 n3 hpre SW N1
      go_wp2_with fail
      refine BC.out.mono ?_; rintro e w3 ⟨rfl, rfl⟩
      have FO := Lib.hid (form_road_c (X := w3.heap.size) (D := D) (P := P) (m := lf - 8) (u := u) HP.out K.out.1 K.out.2.1 K.out.2.2.1 K.out.2.2.2.1 K.out.2.2.2.2.1 H16.out (by have := K.out.2.2.2.2.2.2.2.2.1; omega) (by unfold I64; omega) K.out.2.2.2.2.2.2.2.2.2 FMH.out (K.out.2.2.2.2.2.2.1.nx N3.out) H3.out K.out.2.2.2.2.2.2.2.1)
      clear BC H3
      go_wp2_with fail
      refine (LEN.out _).mono ?_; rintro e w4 ⟨rfl, rfl⟩
      go_wp2_with fail
      refine FO.out.mono ?_
      rintro e w5 ⟨s1, b1, n1, B5, ⟨va, vn, vc, L, W, rfl, hJ, hW1, hn7, hnm, hcl, h5⟩ | ⟨er, rfl, hne, hSR, h5⟩, n5⟩
      · have hlen : W.length = vn := by
          obtain ⟨_, hr, _⟩ := part_at 3 rfl h5
          obtain ⟨a, c, e, _⟩ := rowE_shape hr
          simp only [Value.slice.injEq, List.length_map] at e
          exact e.2.1.symm
        have hf1 := HF.out
        have JN := Lib.hid (join_road_c (X := w3.heap.size) (inn := inn) (f := f) (va := va) (vn := vn) (vc := vc) (hQ := ⟨hJ, hnm, by omega⟩) hlen (by omega) (by omega) HP.out ⟨K.out.2.2.2.1.ro.1, K.out.2.2.2.1.ro.2⟩ K.out.1 K.out.2.2.1 H16.out (by omega) (by omega) (by have := K.out.2.2.2.2.2.2.2.2.1; omega) K.out.2.2.2.2.2.2.2.2.2 (by have := K.out.2.2.2.2.1; omega) FMH.out (K.out.2.2.2.2.2.2.1.nx (N3.out.trans n5)) h5)
        have N5 := Lib.hid (N3.out.trans n5)
        clear hJ hW1 hn7 hnm hcl h5 n5 hlen hf1 FO N3
        go_wp2_with fail
        refine (FAN.out _).mono ?_; rintro e w6 ⟨rfl, rfl⟩
        go_wp2_with fail
        refine JN.out.mono ?_
        rintro e w7 ⟨s2, b2, n2, o, er, B7, rfl, hres, h7, n7⟩
        by_cases he : er = 0
        · subst he
          obtain ⟨l, hJ, hcl⟩ : ∃ l, XsJ s b C out size u L s2 b2 [(o, l)] ∧ s2.calls ≤ s.calls + 710000000 := by
            rcases hres with ⟨_, k⟩ | ⟨k, _⟩
            · exact k
            · exact absurd rfl k
          have TL := Lib.hid (told18_c (inn := inn) (X := w3.heap.size) (pre := pre) (n := n2) hJ K.out.2.2.1 H16.out (by omega) (by have := K.out.2.2.2.2.1; omega) FMH.out h7)
          have N7 := Lib.hid (N5.out.trans n7)
          have HC := Lib.hid hcl
          clear hres hJ hcl h7 n7 JN N5
          go_wp2_with fail
          refine TL.out.mono ?_
          rintro e w8 ⟨s3, k, c, er, rfl, hI, hc3, B8, h8, n8⟩
          rcases hI with ⟨rfl, rfl, rfl, hJ3⟩ | ⟨hne, rfl, rfl, hSR⟩
          · obtain ⟨ln, hln⟩ : ∃ ln, l.length = ln := ⟨_, rfl⟩
            obtain ⟨sn, hsn⟩ : ∃ sn, sumN l = sn := ⟨_, rfl⟩
            have HLS := Lib.hid (show l.length = ln ∧ sumN l = sn from ⟨hln, hsn⟩)
            rw [hln, hsn]
            have FM7 : Frs (Blk w8.heap.size #[.int .i64 (ln : Int), .int .u32 (sn : Int)] 37 :: Blk w.heap.size zInfo 37 :: M) := ⟨fr_blk _ _ _, FMH.out⟩
            obtain ⟨B9, h9, n9⟩ : ∃ B', stars ([DiskA D s3, BuA P b2] ++ (Blk w8.heap.size #[.int .i64 (ln : Int), .int .u32 (sn : Int)] 37 :: Blk w.heap.size zInfo 37 :: M)) (w8.alloc (.cells #[.int .i64 (ln : Int), .int .u32 (sn : Int)] 37)) B' ∧ Nx B8 w8 B' (w8.alloc (.cells #[.int .i64 (ln : Int), .int .u32 (sn : Int)] 37)) := by
              obtain ⟨B2, k2, n2⟩ := drop_db h8
              obtain ⟨B3, k3, n3⟩ := part_new (P := Blk w8.heap.size #[.int .i64 (ln : Int), .int .u32 (sn : Int)] 37) (B' := fun b => b = w8.heap.size) (L := [DiskA D s3, BuA P b2] ++ (Blk w.heap.size zInfo 37 :: M)) (frs_dm D P s3 b2 FMH.out) k2 (gral17 w8 (.cells #[.int .i64 (ln : Int), .int .u32 (sn : Int)] 37)) ⟨heap_alloc_new w8 _, fun _ => Iff.rfl⟩ (fun b hb => by rw [hb]; exact Nat.le_refl _)
              exact ⟨B3, stars_perm (perm_in [] [DiskA D s3, BuA P b2] (Blk w.heap.size zInfo 37 :: M) _).symm k3, n2.trans n3⟩
            have AR := Lib.hid (arrive18_c hJ3 K.out.2.2.2.1 H16.out (by have := HC.out; omega) (by have := HC.out; have := K.out.2.2.2.2.1; omega) FM7 h9)
            have N9 := Lib.hid ((N7.out.trans n8).trans n9)
            clear hJ3 hc3 h8 n8 h9 n9 FM7 hln hsn TL N7
            go_wp2_with fail
            refine AR.out.mono ?_
            rintro e w10 ⟨s4, er, rfl, hS, B10, h10, n10⟩
            have NE := Lib.hid (N9.out.trans n10)
            obtain ⟨_, hb8, _⟩ := part_at 2 rfl h10
            have x0 : w10.cell? ⟨w8.heap.size, 0, none⟩ = some (.int .i64 (ln : Int)) := by rw [cells_at hb8.1]; rfl
            have x1 : w10.cell? ⟨w8.heap.size, 1, none⟩ = some (.int .u32 (sn : Int)) := by rw [cells_at hb8.1]; rfl
            obtain ⟨B11, h11, n11⟩ := drop_db h10
            rcases hS with ⟨rfl, hSR⟩ | ⟨hne, hSR⟩
            · rw [HLS.out.1, HLS.out.2] at hSR
              obtain ⟨⟨c0, c1, f0, f1, hlb⟩, T3⟩ := out_set (ln : Int) (sn : Int) K.out.2.2.2.2.2.1 h11
              have T3 := Lib.hid T3
              have SRX := Lib.hid hSR
              have NX := Lib.hid (NE.out.trans n11)
              clear hb8 h10 n10 h11 n11 hSR AR N9 NE
              go_wp2_with fail
              obtain ⟨B5, h5, n5⟩ := T3.out
              exact sort_out SRX.out h5 (NX.out.trans n5) rfl rfl rfl rfl
            · obtain ⟨⟨c0, c1, f0, f1, hlb⟩, T3⟩ := out_set 0 0 K.out.2.2.2.2.2.1 h11
              have T3 := Lib.hid T3
              have SRX := Lib.hid hSR
              have NX := Lib.hid (NE.out.trans n11)
              have he2 : (er != 0) = true := by simpa using hne
              clear hb8 h10 n10 h11 n11 hSR AR N9 NE x0 x1
              go_wp2_with fail
              obtain ⟨B5, h5, n5⟩ := T3.out
              exact sort_out SRX.out h5 (NX.out.trans n5) rfl rfl rfl rfl
          · obtain ⟨B9, h9, n9⟩ := drop_db h8
            have g9 := gral17 w8 (.cells #[.int .i64 0, .int .u32 0] 37)
            have h10 := stars_gr (show Frs ([DiskA D s3, BuA P b2] ++ (Blk w.heap.size zInfo 37 :: M)) from frs_dm D P s3 b2 FMH.out) h9 g9
            obtain ⟨⟨c0, c1, f0, f1, hlb⟩, T3⟩ := out_set 0 0 K.out.2.2.2.2.2.1 h10
            have T3 := Lib.hid T3
            have SRX := Lib.hid hSR
            have NX := Lib.hid (((N7.out.trans n8).trans n9).trans (Nx.gr g9))
            have he2 : (er != 0) = true := by simpa using hne
            clear h8 n8 h9 n9 h10 g9 hSR TL N7 hc3
            go_wp2_with fail
            obtain ⟨B5, h5, n5⟩ := T3.out
            exact sort_out SRX.out h5 (NX.out.trans n5) rfl rfl rfl rfl
        · have hSR : SortR s b C inn out size u s2 b2 0 0 er := by
            rcases hres with ⟨k, _⟩ | ⟨_, k⟩
            · exact absurd k he
            · exact k
          obtain ⟨B9, h9, n9⟩ := drop_db h7
          obtain ⟨⟨c0, c1, f0, f1, hlb⟩, T3⟩ := out_set 0 0 K.out.2.2.2.2.2.1 h9
          have T3 := Lib.hid T3
          have SRX := Lib.hid hSR
          have NX := Lib.hid ((N5.out.trans n7).trans n9)
          have he2 : (er != 0) = true := by simpa using he
          clear h7 n7 h9 n9 hSR hres JN N5
          go_wp2_with fail
          obtain ⟨B5, h5, n5⟩ := T3.out
          exact sort_out SRX.out h5 (NX.out.trans n5) rfl rfl rfl rfl
      · obtain ⟨B9, h9, n9⟩ := drop_db h5
        obtain ⟨⟨c0, c1, f0, f1, hlb⟩, T3⟩ := out_set 0 0 K.out.2.2.2.2.2.1 h9
        have T3 := Lib.hid T3
        have SRX := Lib.hid hSR
        have NX := Lib.hid ((N3.out.trans n5).trans n9)
        have he2 : (er != 0) = true := by simpa using hne
        clear h5 n5 h9 n9 hSR FO N3
        go_wp2_with fail
        obtain ⟨B5, h5, n5⟩ := T3.out
        exact sort_out SRX.out h5 (NX.out.trans n5) rfl rfl rfl rfl
    · have h5e : er = 5 ∧ s.call.down = true := by
        rcases he with k | k
        · exact absurd k h0
        · exact k
      obtain ⟨rfl, hd⟩ := h5e
      obtain ⟨⟨c0, c1, f0, f1, hlb⟩, T3⟩ := out_set 0 0 K.out.2.2.2.2.2.1 h2
      have T3 := Lib.hid T3
      have SRX := Lib.hid (xs_fell (C := C) (inn := inn) (out := out) (size := size) (u := u) K.out.2.2.2.2.2.2.2.1 H16.out hd)
      have NX := Lib.hid (N1.out.trans n2)
      clear h2 n2 SW N1 he h0 hd
      go_wp2_with fail
      obtain ⟨B5, h5, n5⟩ := T3.out
      exact sort_out SRX.out h5 (NX.out.trans n5) rfl rfl rfl rfl
end Go.Proofs.YtjplkmmhjfpdaaaGreatDoor
/- Plain facts of the laws on sorting. -/
namespace Go.Proofs.YtjplkmmhjfpdaaaGreatDoor
open Go.RowKit FsPlain CrcPlain OctPlain FramePlain RecPlain RdPlain RnPlain WrPlain XsPlain
set_option linter.unusedVariables false
set_option linter.unusedSimpArgs false
set_option maxRecDepth 20000
namespace XsPlain
def stAB (r : Int) (S : ByteArray) : St := ⟨r, 3, -1, false, [⟨[97], S.data.toList, 0⟩, ⟨[98], [], 0⟩]⟩
def stT (th : Bool) (r : Int) (S : ByteArray) : St := if th = true then stAB r S else stA r S
theorem is_a : isB nmA.data.toList nmB.data.toList = false := by decide
theorem free_a (r : Int) (S : ByteArray) : ∀ n, isB n nmB.data.toList = true → (stA r S).get n = Option.none := fun n hn => by
  have h1 : (([97] : List UInt8) == n) = false := by
    cases h : ([97] : List UInt8) == n
    · rfl
    · have e : ([97] : List UInt8) = n := by simpa using h
      rw [← e] at hn
      exact absurd hn (by decide)
  show ([⟨[97], S.data.toList, 0⟩] : List F).find? (fun f => f.name == n) = Option.none
  rw [List.find?_cons, h1]; rfl
theorem free_ab (r : Int) (S : ByteArray) : ∀ n, isB n nmB.data.toList = true → (stAB r S).get n = Option.none := fun n hn => by
  have h1 : ∀ x : List UInt8, isB x nmB.data.toList = false → (x == n) = false := fun x hx => by
    cases h : x == n
    · rfl
    · have e : x = n := by simpa using h
      rw [← e, hx] at hn
      cases hn
  show ([⟨[97], S.data.toList, 0⟩, ⟨[98], [], 0⟩] : List F).find? (fun f => f.name == n) = Option.none
  rw [List.find?_cons, h1 [97] (by decide), List.find?_cons, h1 [98] (by decide)]; rfl
theorem names18_of {s : St} (h : ∀ n, isB n nmB.data.toList = true → s.get n = Option.none) : Names18 s nmA nmB := ⟨⟨nmA_right, nmA_size⟩, by decide, by decide, is_a, h⟩
theorem names_stT (th : Bool) (r : Int) (S : ByteArray) : Names18 (stT th r S) nmA nmB := by
  cases th
  · exact names18_of (free_a r S)
  · exact names18_of (free_ab r S)
theorem stT_has (th : Bool) (r : Int) (S : ByteArray) : HasD (stT th r S) nmA.data.toList S := by
  cases th
  · exact ⟨⟨[97], S.data.toList, 0⟩, rfl, rfl⟩
  · exact ⟨⟨[97], S.data.toList, 0⟩, rfl, rfl⟩
end XsPlain
theorem dm_made0 {D P : Nat} {s : St} {b : Bu} {w u v : World} {B B2 : Nat → Prop} (h : DiskA D s u B) (n : Nx (fun _ => False) w B u) (hb : BuA P b v B2) (n2 : ∀ x, B2 x → u.heap.size ≤ x) (g : Gr u v) : DM D P s b [] w v := by
  obtain ⟨B3, k3, n3⟩ := part_new (P := BuA P b) (L := [DiskA D s]) ⟨fr_disk _ _, trivial⟩ (stars_one h) g hb n2
  exact ⟨B3, stars_perm (List.Perm.swap _ _ _) k3, n.trans n3⟩
end Go.Proofs.YtjplkmmhjfpdaaaGreatDoor
/- The document's disk: is it a name? By a walk of its loop. -/
namespace Go.Proofs.YtjplkmmhjfpdaaaGreatDoor
open Go.RowKit FsPlain
set_option linter.unusedVariables false
set_option linter.unusedSimpArgs false
set_option maxRecDepth 20000
end Go.Proofs.YtjplkmmhjfpdaaaGreatDoor
/- The law's own example of a merge. -/
namespace Go.Proofs.YtjplkmmhjfpdaaaGreatDoor
open Go.RowKit FsPlain CrcPlain OctPlain FramePlain RecPlain RdPlain RnPlain WrPlain
set_option linter.unusedVariables false
set_option linter.unusedSimpArgs false
set_option maxRecDepth 20000
def gA : ByteArray := ⟨#[97]⟩
def gB : ByteArray := ⟨#[98]⟩
def gC : ByteArray := ⟨#[99]⟩
theorem le17 : leT gA gB = true ∧ leT gA gC = true ∧ leT gB gC = true := by
  unfold leT ltT
  rw [Lib.toList_data, Lib.toList_data, Lib.toList_data]
  decide
theorem lies_of17 {u v : World} {p : Nat} {l : List ByteArray} (h : ∀ i x, l[i]? = some x → v.cell? ⟨p, i, none⟩ = some (.string x)) (hs : p < v.heap.size) : Lies v (.slice (some ⟨p, 0, none⟩) l.length l.length) l := by
  refine ⟨_, l.length, rfl, Nat.le_refl _, .inr ⟨_, 0, rfl, hs, fun j x hj => ?_⟩⟩
  rw [Nat.zero_add]; exact h j x hj
end Go.Proofs.YtjplkmmhjfpdaaaGreatDoor
/- The law's own example of a sort. -/
namespace Go.Proofs.YtjplkmmhjfpdaaaGreatDoor
open Go.RowKit FsPlain CrcPlain OctPlain FramePlain RecPlain RdPlain RnPlain WrPlain XsPlain
set_option linter.unusedVariables false
set_option linter.unusedSimpArgs false
set_option maxRecDepth 20000
theorem ex_sort18 : sortT [gB, gA, gB] true = [gA, gB] := by
  symm
  refine sortT_isU (by simp [Srt, le17]) (by decide) fun x => ?_
  simp only [List.mem_cons, List.not_mem_nil, or_false]
  constructor
  · rintro (h | h) <;> simp [h]
  · rintro (h | h | h) <;> simp [h]
theorem ex_pass18 : passN 100 16 = 4 := by
  have e : passW 1 13 = 3 := by
    rw [pass_more (by decide), pass_more (by decide), pass_more (by decide), pass_one (by decide)]
  unfold passN fanN
  rw [if_neg (by omega)]
  show 1 + ((passW 1 13 : Nat) : Int) = 4
  rw [e]; rfl
theorem ex_lay18 : layB 1 [gB, gA, gB] = true := by decide
theorem ex_xs18 {s' : St} {b' : Bu} {k c er : Int} (h : SortR (stA 1000 (layR 1 [gB, gA, gB])) ⟨16, 0, 0⟩ (layR 1 [gB, gA, gB]) nmA nmB 1 true s' b' k c er) : er = 0 ∧ k = 2 := by
  have hF := lay_file ex_lay18
  have hsz := lay_size ex_lay18
  simp only [List.length_cons, List.length_nil] at hsz
  have hu : used (stA 1000 (layR 1 [gB, gA, gB])).fs = (layR 1 [gB, gA, gB]).size := by
    show (layR 1 [gB, gA, gB]).data.toList.length + 0 = _
    rw [Array.length_toList]; rfl
  obtain ⟨c1, _, _⟩ := h.calm _ hF (by decide) rfl rfl (by decide) (by show (1 : Nat) ≤ 40; omega) (by
    rw [hu]
    show ((layR 1 [gB, gA, gB]).size : Int) + 200 * (((3 : Nat) : Int) + 1) ≤ 1000
    omega)
  obtain ⟨L, hL, _, hk, _⟩ := h.yes c1
  have e := file_one hL hF
  subst e
  rw [ex_sort18] at hk
  exact ⟨c1, hk⟩
set_option maxHeartbeats 8000000 in
theorem awake18_c (w : World) (hT : Tab w) : Calls Tryz.prog 7 #[] w fun e w' => e = .returned (.bool true) ∧ Gr w w' := by
  have i1 : I64 1 := by unfold I64; omega
  have C := Lib.hid (new_c 1000 (by decide) (by decide))
  have hsz := lay_size ex_lay18
  simp only [List.length_cons, List.length_nil] at hsz
  have MU := Lib.hid (fun (u : World) => must6_c (w := u.alloc (.cells #[.string gB, .string gA, .string gB] 9)) (lies_of17 (u := u) (l := [gB, gA, gB]) (p := u.heap.size) (fun i z hz => by
    rw [World.cell?_alloc_new]
    match i, hz with
    | 0, hz => cases hz; rfl
    | 1, hz => cases hz; rfl
    | 2, hz => cases hz; rfl) (by simp)) 1 i1 (by decide) (fun s hs => by simp only [List.mem_cons, List.not_mem_nil, or_false] at hs; rcases hs with rfl | rfl | rfl <;> decide))
  have EX := Lib.hid (fun s' b' k c er => @ex_xs18 s' b' k c er)
  obtain ⟨C9, hC9⟩ : ∃ C9, layR 1 [gB, gA, gB] = C9 := ⟨_, rfl⟩
  rw [hC9] at hsz EX MU
  have hz9 : C9.size ≤ 100 := by omega
  have CC := Lib.hid (fun p (u : World) (B : Nat → Prop) (h : DiskA p (fresh 1000) u B) => d_create p (fresh 1000) nmA (by decide) nmA_right (by show (0 : Int) ≤ _; decide) u B h)
  have CA := Lib.hid (fun p (u : World) (B : Nat → Prop) (h : DiskA p (stC 1000) u B) => d_append p (stC 1000) nmA C9 (by decide) nmA_right (by show (1 : Int) ≤ _; decide) (by omega) u B h)
  rw [st_create] at CC
  rw [st_append 1000 C9 (by omega)] at CA
  have BN := Lib.hid (fun (u : World) => bu_new 16 u (by decide) (by decide))
  have SO := Lib.hid (fun D P (u : World) (B : Nat → Prop) (tb : TabB u B) (h : stars ([DiskA D (stA 1000 C9), BuA P ⟨16, 0, 0⟩] ++ []) u B) => sort18_c (size := 1) (inn := nmA) (out := nmB) (C := C9) i1 true (stT_has false 1000 C9) (by omega) (names_stT false 1000 C9) (by show (2 : Int) ≤ _; decide) (M := []) trivial tb h)
  have PA := Lib.hid (fun u => passes18_c 100 16 (by unfold I64; omega) (by unfold I64; omega) u)
  rw [ex_pass18] at PA
  have I1 := Lib.hid (fun u => is18_c ⟨#[98, 46, 114, 48, 46, 49]⟩ ⟨#[98]⟩ (by decide) (by decide) u)
  have I2 := Lib.hid (fun u => is18_c ⟨#[98, 46, 114]⟩ ⟨#[98]⟩ (by decide) (by decide) u)
  have e1 : isB (⟨#[98, 46, 114, 48, 46, 49]⟩ : ByteArray).data.toList (⟨#[98]⟩ : ByteArray).data.toList = true := by decide
  have e2 : isB (⟨#[98, 46, 114]⟩ : ByteArray).data.toList (⟨#[98]⟩ : ByteArray).data.toList = false := by decide
  rw [e1] at I1
  rw [e2] at I2
  have HT := Lib.hid hT
  unfold gA gB at MU
  unfold nmA nmB at SO
  unfold nmA at CC CA
  clear hsz hC9 e1 e2 hT
  go_enter Tryz.func7, Tryz.ntmps7
  go_wp2_with fail
  refine (C.out w).mono ?_; rintro e u ⟨p, B, rfl, hd, g, hn⟩
  have H := Lib.hid hd
  have N0 := Lib.hid (show Nx (fun _ => False) w B u from ⟨Only.ofGr g, fun b hb => .inr (hn b hb)⟩)
  clear hd g hn C
  go_wp2_with fail
  refine (CC.out p _ _ H.out).mono ?_; rintro e u1 ⟨rfl, B1, k1, n1⟩
  have K1 := Lib.hid k1
  have N1 := Lib.hid (N0.out.trans n1)
  clear k1 n1
  go_wp2_with fail
  refine (MU.out _).mono ?_; rintro e u2 ⟨rfl, g2⟩
  have K2 := Lib.hid ((fr_disk _ _).fr K1.out (Only.ofGr (B := fun _ => False) ((gral17 _ _).trans g2)) (fun _ _ e => e))
  have N2 := Lib.hid (N1.out.trans (Nx.gr (B := B1) ((gral17 _ _).trans g2)))
  clear g2
  go_wp2_with fail
  refine (CA.out p _ _ K2.out).mono ?_; rintro e u3 ⟨rfl, B3, k3, n3⟩
  have K3 := Lib.hid k3
  have N3 := Lib.hid (N2.out.trans n3)
  clear k3 n3
  go_wp2_with fail
  refine (BN.out _).mono ?_; rintro e u4 ⟨rfl, hb, g4⟩
  have DB := Lib.hid (dm_made0 K3.out N3.out hb (fun x hx => by omega) g4)
  clear hb g4
  obtain ⟨P, hP⟩ : ∃ P, u3.heap.size = P := ⟨_, rfl⟩
  rw [hP] at DB ⊢
  clear hP
  go_wp2_with fail
  refine (DB.out.sort HT.out (fun B tb h => SO.out p P _ B tb h)).mono ?_; rintro e u5 ⟨s', b', k, c, er, rfl, hR, db⟩
  obtain ⟨rfl, rfl⟩ := EX.out _ _ _ _ _ hR
  have D6 := Lib.hid (DM.blk_new (M := []) trivial db #[.int .i64 2, .int .u32 c] 37 rfl)
  obtain ⟨I, hI⟩ : ∃ I, u5.heap.size = I := ⟨_, rfl⟩
  have HI := Lib.hid hI
  rw [hI] at D6
  obtain ⟨u6, hu6⟩ : ∃ u6, u5.alloc (.cells #[.int .i64 2, .int .u32 c] 37) = u6 := ⟨_, rfl⟩
  rw [hu6] at D6
  have HU6 := Lib.hid hu6
  clear hR db hI hu6
  go_wp2_with fail
  rw [HI.out, HU6.out]
  have x0 : u6.cell? ⟨I, 0, none⟩ = some (.int .i64 2) := D6.out.blk 0 rfl 0
  refine (PA.out _).mono ?_; rintro e u7 ⟨rfl, g7⟩
  have D7 := Lib.hid (DM.gr (show Frs [Blk I #[.int .i64 2, .int .u32 c] 37] from ⟨fr_blk _ _ _, trivial⟩) D6.out g7)
  have x7 : u7.cell? ⟨I, 0, none⟩ = some (.int .i64 2) := D7.out.blk 0 rfl 0
  clear g7
  go_wp2_with fail
  refine (I1.out _).mono ?_; rintro e u8 ⟨rfl, g8⟩
  go_wp2_with fail
  refine (I2.out _).mono ?_; rintro e u9 ⟨rfl, g9⟩
  go_wp2_with fail
  go_ret
  exact ⟨rfl, (D7.out.end.trans g8).trans g9⟩
end Go.Proofs.YtjplkmmhjfpdaaaGreatDoor
