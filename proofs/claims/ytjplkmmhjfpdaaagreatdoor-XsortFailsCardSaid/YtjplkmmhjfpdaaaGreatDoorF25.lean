/- In one text: Wr6, Wr, RnPart, RnDefer. -/
import Derived.Test.YtjplkmmhjfpdaaaGreatDoorF24
import Derived.StillTailTactics
import Derived.Test.YtjplkmmhjfpdaaaGreatDoorF07
import Derived.Test.YtjplkmmhjfpdaaaGreatDoorF23
import Derived.Test.YtjplkmmhjfpdaaaGreatDoorF10
import Derived.Defers
/- The program's writer: Close. -/
namespace Go.Proofs.YtjplkmmhjfpdaaaGreatDoor
open Go.RowKit FsPlain CrcPlain OctPlain FramePlain RecPlain WrPlain
set_option linter.unusedVariables false
set_option linter.unusedSimpArgs false
set_option maxRecDepth 20000
theorem w_close_shut (x D P : Nat) (m : M3) (ho : m.x.opn = false) (w : World) (B : Nat → Prop) (h : W3 x D P m w B) :
    Calls Tryz.prog 118 #[.pointer (some ⟨x, 0, none⟩)] w (Does w B (W3 x D P m) (.tuple #[.agg #[.int .i64 0, .int .u32 0], .int .i64 14])) := by
  have H := Lib.hid h
  have hb := w3_shut ho h
  have hxl := lt_of_block hb
  have CO := Lib.hid (fun u (g : Gr w u) => wopen_no x u (by rw [g.cell (p := ⟨x, 0, none⟩) hxl, cells_at hb]; rfl))
  have g0 : Gr w (w.alloc (.cells #[.int .i64 0, .int .u32 0] 37)) := (Gr.refl w).alloc (Nat.le_refl _) _
  clear h hb ho
  go_enter Tryz.func118, Tryz.ntmps118
  go_wp2_with fail
  refine (CO.out _ g0).mono ?_; rintro e w2 ⟨rfl, rfl⟩
  go_wp2_with fail
  refine bodyPost_ret (v := .tuple #[.agg #[.int .i64 0, .int .u32 0], .int .i64 14]) ?_ rfl ⟨rfl, B, star_gr (fr_stars (frs_w3 _ _ _ _)) H.out g0, Nx.gr g0⟩
  rw [results_cell_tmp Tryz.results118]
  simp [go_sem]
def y5 (x D P q0 q1 : Nat) (n0 s0 n1 s1 : Int) (m : M3) : List Asn := [Blk q1 (infoC n1 s1) 37, Blk q0 (infoC n0 s0) 37, WrA x D P m.x, DiskA D m.s, BuA P m.b]
theorem frs_y5 (x D P q0 q1 : Nat) (n0 s0 n1 s1 : Int) (m : M3) : Frs (y5 x D P q0 q1 n0 s0 n1 s1 m) := ⟨fr_blk _ _ _, fr_blk _ _ _, fr_wr _ _ _ _, fr_disk _ _, fr_bu _ _, trivial⟩
theorem y5_w3 {x D P q0 q1 : Nat} {n0 s0 n1 s1 : Int} {m : M3} {w w' : World} {B B' : Nat → Prop} (h : stars (y5 x D P q0 q1 n0 s0 n1 s1 m) w' B') (n : Nx B w B' w') : ∃ B', W3 x D P m w' B' ∧ Nx B w B' w' := by
  obtain ⟨B1, B2, _, r, _, e⟩ := stars_app (L := [Blk q1 (infoC n1 s1) 37, Blk q0 (infoC n0 s0) 37]).1 h
  exact ⟨B2, r, n.less fun b hb => (e b).2 (.inr hb)⟩
theorem y5_ret {x D P q0 q1 : Nat} {n0 s0 n1 s1 n' s' : Int} {m : M3} {w w' : World} {B B' : Nat → Prop} (h : stars (y5 x D P q0 q1 n0 s0 n1 s1 m) w' B') (n : Nx B w B' w') :
    ∃ B2, W3 x D P m ((w'.setCell ⟨q0, 0, none⟩ (.int .i64 n')).setCell ⟨q0, 1, none⟩ (.int .u32 s')) B2 ∧ Nx B w B2 ((w'.setCell ⟨q0, 0, none⟩ (.int .i64 n')).setCell ⟨q0, 1, none⟩ (.int .u32 s')) ∧
      ((w'.setCell ⟨q0, 0, none⟩ (.int .i64 n')).setCell ⟨q0, 1, none⟩ (.int .u32 s')).cell? ⟨q0, 0, none⟩ = some (.int .i64 n') ∧ ((w'.setCell ⟨q0, 0, none⟩ (.int .i64 n')).setCell ⟨q0, 1, none⟩ (.int .u32 s')).cell? ⟨q0, 1, none⟩ = some (.int .u32 s') := by
  obtain ⟨B1, h1, k1⟩ := step_at (w' := w'.setCell ⟨q0, 0, none⟩ (.int .i64 n')) (Q := Blk q0 (infoC n' s0) 37) 1 rfl (frs_y5 _ _ _ _ _ _ _ _ _ _) h fun B1 h1 => blk_next h1 (.int .i64 n')
  obtain ⟨B2, h2, k2⟩ := step_at (w' := (w'.setCell ⟨q0, 0, none⟩ (.int .i64 n')).setCell ⟨q0, 1, none⟩ (.int .u32 s')) (Q := Blk q0 (infoC n' s') 37) 1 rfl (frs_y5 x D P q0 q1 n' s0 n1 s1 m) h1 fun B1 h1 => blk_next h1 (.int .u32 s')
  obtain ⟨_, hb, _⟩ := part_at 1 rfl h2
  obtain ⟨B3, h3, n3⟩ := y5_w3 (x := x) (q0 := q0) (q1 := q1) (n0 := n') (s0 := s') (n1 := n1) (s1 := s1) (m := m) h2 ((n.trans k1).trans k2)
  exact ⟨B3, h3, n3, by rw [cells_at hb.1]; rfl, by rw [cells_at hb.1]; rfl⟩
set_option maxRecDepth 20000 in
set_option maxHeartbeats 4000000 in
theorem w_close_open (x D P : Nat) (m : M3) (hm : m.ok) (hal : m.x.all.length ≤ 100000) (hc : m.s.calls ≤ 100000000000) (ho : m.x.opn = true) (w : World) (B : Nat → Prop) (h : W3 x D P m w B) :
    Calls Tryz.prog 118 #[.pointer (some ⟨x, 0, none⟩)] w (Does w B (W3 x D P (closeM m).1) (closeV m (closeM m).2)) := by
  obtain ⟨T, hT⟩ : ∃ T, T = blkS m.x.size m.x.wait := ⟨_, rfl⟩
  obtain ⟨k, hk⟩ : ∃ k : Nat, k = m.x.all.length := ⟨_, rfl⟩
  obtain ⟨s, hs⟩ : ∃ s : Nat, s = sumN m.x.all := ⟨_, rfl⟩
  obtain ⟨E, hE⟩ : ∃ E, E = peS k s := ⟨_, rfl⟩
  have hfc := fin_close (E := E) ho hT (by rw [hE, hk, hs])
  obtain ⟨V, hV⟩ : ∃ V, V = closeV m (closeM m).2 := ⟨_, rfl⟩
  rw [← hV]
  have hfo := (finM_x m T E).2.1
  obtain ⟨F, hF⟩ : ∃ F, F = finM m T E := ⟨_, rfl⟩
  rw [← hF] at hfc hfo
  have HV := Lib.hid (show V = .tuple #[.agg #[.int .i64 (if F.2 = 0 then (k : Int) else 0), .int .u32 (if F.2 = 0 then (s : Int) else 0)], .int .i64 F.2] by rw [hV, hk, hs, hfc.2.2.2.2.2]; rfl)
  have CF := Lib.hid (fun w1 B1 (h1 : WO x D P m w1 B1) => by have := w_finish x D P m T E k s hT hE (by rw [hT]; exact blkS_le hm.z (by have := hm.wl; omega) hm.wz) (by rw [hE]; exact peS_le _ _) hk hs hal hm hc w1 B1 h1; rw [← hF] at this; exact this)
  have h1 := w3_open ho h
  have g0 : Gr w (w.alloc (.cells #[.int .i64 0, .int .u32 0] 37)) := (Gr.refl w).alloc (Nat.le_refl _) _
  obtain ⟨vw, h2⟩ := h1
  have hb := wl_blk h2
  have hxl := lt_of_block hb
  have c5 : w.cell? ⟨x, 5, none⟩ = some (.int .i64 k) := by rw [cells_at hb, hk]; rfl
  have c6 : w.cell? ⟨x, 6, none⟩ = some (.int .u32 s) := by rw [cells_at hb, hs]; rfl
  have CO := Lib.hid (fun u (g : Gr w u) => wopen_yes x ⟨D, 0, none⟩ u (by rw [g.cell (p := ⟨x, 0, none⟩) hxl, cells_at hb]; rfl))
  obtain ⟨B0, p0, n0⟩ := part_new (P := Blk w.heap.size (infoC 0 0) 37) (L := [WrA x D P m.x, DiskA D m.s, BuA P m.b]) (B' := fun b => b = w.heap.size) (frs_w3 _ _ _ _) h g0 ⟨heap_alloc_new w _, fun _ => Iff.rfl⟩ (fun b hb => by omega)
  have P0 := Lib.hid p0
  have N0 := Lib.hid n0
  have HO := Lib.hid ho
  have HFC := Lib.hid hfc
  have HFO := Lib.hid (show F.1.x.opn = true by rw [hfo, ho])
  clear h h2 p0 n0 hb hT hE hk hs hV hF hfc hfo hm hal hc ho
  go_enter Tryz.func118, Tryz.ntmps118
  go_wp2_with fail
  refine (CO.out _ g0).mono ?_; rintro e w2 ⟨rfl, rfl⟩
  go_wp2_with fail
  obtain ⟨U, hU⟩ : ∃ U, U = w.alloc (.cells #[.int .i64 0, .int .u32 0] 37) := ⟨_, rfl⟩
  have u5 : U.cell? ⟨x, 5, none⟩ = some (.int .i64 k) := by rw [hU, g0.cell (p := ⟨x, 5, none⟩) hxl]; exact c5
  have u6 : U.cell? ⟨x, 6, none⟩ = some (.int .u32 s) := by rw [hU, g0.cell (p := ⟨x, 6, none⟩) hxl]; exact c6
  rw [← hU]
  have HU := Lib.hid hU
  rw [← hU] at g0
  clear hU
  have hne := World.new_ne U ⟨x, 5, none⟩ u5
  go_region_held3 (fun w' => w'.cell? ⟨x, 5, none⟩ = some (.int .i64 k) ∧ w'.cell? ⟨x, 6, none⟩ = some (.int .u32 s)) (first | exact ⟨u5, u6⟩ | go_keep) (fail)
  go_wp2_with fail
  obtain ⟨B1, p1, n1⟩ := part_new (P := Blk U.heap.size (infoC k s) 37) (L := [Blk w.heap.size (infoC 0 0) 37, WrA x D P m.x, DiskA D m.s, BuA P m.b]) (B' := fun b => b = U.heap.size) ⟨fr_blk _ _ _, frs_w3 _ _ _ _⟩ (by have := P0.out; rw [← HU.out] at this; exact this) ((Gr.refl U).alloc (Nat.le_refl _) (.cells #[.int .i64 (k : Nat), .int .u32 (s : Nat)] 37)) ⟨heap_alloc_new U _, fun _ => Iff.rfl⟩ (fun b hb => by omega)
  obtain ⟨V1, hV1⟩ : ∃ V1, V1 = (U.alloc (.cells #[.int .i64 (k : Nat), .int .u32 (s : Nat)] 37)).drew := ⟨_, rfl⟩
  rw [← hV1]
  have g1 : Gr (U.alloc (.cells #[.int .i64 (k : Nat), .int .u32 (s : Nat)] 37)) V1 := by rw [hV1]; exact (Gr.refl _).drew
  have p2 := stars_gr (frs_y5 x D P w.heap.size U.heap.size 0 0 k s m) p1 g1
  have n0' := N0.out
  rw [← HU.out] at n0'
  have N2 := Lib.hid ((n0'.trans n1).trans (Nx.gr g1))
  have CFF : Calls Tryz.prog 144 #[.pointer (some ⟨x, 0, none⟩), .agg #[.int .i64 (k : Nat), .int .u32 (s : Nat)]] V1 (Does V1 B1 (stars (y5 x D P w.heap.size U.heap.size 0 0 k s F.1)) (.int .i64 F.2)) :=
    does_suf [Blk U.heap.size (infoC k s) 37, Blk w.heap.size (infoC 0 0) 37] (M := [WrA x D P m.x, DiskA D m.s, BuA P m.b]) (M' := [WrA x D P F.1.x, DiskA D F.1.s, BuA P F.1.b]) ⟨fr_blk _ _ _, fr_blk _ _ _, trivial⟩ p2 fun B3 p3 => (CF.out V1 B3 (w3_open HO.out p3)).mono fun e w' hd => hd.imp fun B' q => w3_close HFO.out q
  have CFH := Lib.hid CFF
  clear p1 p2 n1 n0' g1 CFF hV1 u5 u6 hne g0
  refine CFH.out.mono ?_; rintro e w4 hd
  obtain ⟨rfl, B4, h4, n4⟩ := hd
  have CD : Calls Tryz.prog 116 #[.pointer (some ⟨x, 0, none⟩)] w4 (Does w4 B4 (stars (y5 x D P w.heap.size U.heap.size 0 0 k s (closeM m).1)) (.tuple #[])) :=
    does_suf [Blk U.heap.size (infoC k s) 37, Blk w.heap.size (infoC 0 0) 37] (M := [WrA x D P F.1.x, DiskA D F.1.s, BuA P F.1.b]) (M' := [WrA x D P (closeM m).1.x, DiskA D (closeM m).1.s, BuA P (closeM m).1.b]) ⟨fr_blk _ _ _, fr_blk _ _ _, trivial⟩ h4 fun B3 p3 => (w_drop x D P F.1 w4 B3 p3).mono fun e w' hd => hd.imp fun B' q => shut_same HFC.out.1 HFC.out.2.1 HFC.out.2.2.1 HFC.out.2.2.2.1 HFC.out.2.2.2.2.1 q
  have CDH := Lib.hid CD
  have N4 := Lib.hid (N2.out.trans n4)
  clear h4 n4 CD CFH
  go_wp2_with fail
  refine CDH.out.mono ?_; rintro e w5 hd
  obtain ⟨rfl, B5, h5, n5⟩ := hd
  obtain ⟨_, hb1, _⟩ := part_at 0 rfl h5
  obtain ⟨_, hb0, _⟩ := part_at 1 rfl h5
  have k0 : w5.cell? ⟨U.heap.size, 0, none⟩ = some (.int .i64 k) := by rw [cells_at hb1.1]; rfl
  have k1 : w5.cell? ⟨U.heap.size, 1, none⟩ = some (.int .u32 s) := by rw [cells_at hb1.1]; rfl
  have k2 : w5.cell? ⟨w.heap.size, 0, none⟩ = some (.int .i64 0) := by rw [cells_at hb0.1]; rfl
  have k3 : w5.cell? ⟨w.heap.size, 1, none⟩ = some (.int .u32 0) := by rw [cells_at hb0.1]; rfl
  have f0 := cells_free hb0.1 0
  have f1 := cells_free hb0.1 1
  have H5 := Lib.hid h5
  have N5 := Lib.hid (N4.out.trans n5)
  clear h5 n5 hb1 hb0 CDH
  obtain ⟨⟨M, ec⟩, rfl⟩ : ∃ X, X = F := ⟨_, rfl⟩
  by_cases h0 : ec = 0
  · subst h0
    have HV2 := HV.out
    simp only [if_true] at HV2
    subst HV2
    go_wp2_with fail
    obtain ⟨B6, h6, n6, r0, r1⟩ := y5_ret (n' := k) (s' := s) H5.out N5.out
    refine bodyPost_ret (info_ret Tryz.results118 rfl rfl r0 r1) rfl ?_
    exact ⟨rfl, B6, h6, n6⟩
  · have t1 : (ec == 0) = false := by simpa using h0
    have t2 : (ec != 0) = true := by simpa using h0
    have HV2 := HV.out
    simp only [if_neg h0] at HV2
    subst HV2
    clear h0
    go_wp2_with fail
    obtain ⟨B6, h6, n6, r0, r1⟩ := y5_ret (n' := 0) (s' := 0) H5.out N5.out
    refine bodyPost_ret (info_ret Tryz.results118 rfl rfl r0 r1) rfl ?_
    exact ⟨rfl, B6, h6, n6⟩
theorem w_close (x D P : Nat) (m : M3) (hm : m.ok) (hal : m.x.all.length ≤ 100000) (hc : m.s.calls ≤ 100000000000) (w : World) (B : Nat → Prop) (h : W3 x D P m w B) :
    Calls Tryz.prog 118 #[.pointer (some ⟨x, 0, none⟩)] w (Does w B (W3 x D P (closeM m).1) (closeV m (closeM m).2)) := by
  cases ho : m.x.opn
  · have e : closeM m = (m, 14) := by unfold closeM; rw [if_pos ho]
    rw [e]
    exact w_close_shut x D P m ho w B h
  · exact w_close_open x D P m hm hal hc ho w B h
end Go.Proofs.YtjplkmmhjfpdaaaGreatDoor
/- The program's writer: Create; the chapter's example. -/
namespace Go.Proofs.YtjplkmmhjfpdaaaGreatDoor
open Go.RowKit FsPlain CrcPlain OctPlain FramePlain RecPlain WrPlain
set_option linter.unusedVariables false
set_option linter.unusedSimpArgs false
set_option maxRecDepth 20000
def WMade (D P : Nat) (w : World) (B : Nat → Prop) (nm : ByteArray) (size : Int) (R : St × Bu × Int) (e : Ending) (w' : World) : Prop :=
  (R.2.2 = 0 ∧ ∃ x, Does w B (W3 x D P ⟨R.1, R.2.1, newWs nm size⟩) (.tuple #[.pointer (some ⟨x, 0, none⟩), .int .i64 0]) e w') ∨
  (R.2.2 ≠ 0 ∧ Does w B (stars [DiskA D R.1, BuA P R.2.1]) (.tuple #[.pointer none, .int .i64 R.2.2]) e w')
theorem frs_d2 (D P : Nat) (s : St) (b : Bu) : Frs [DiskA D s, BuA P b] := ⟨fr_disk _ _, fr_bu _ _, trivial⟩
theorem wnew (D P : Nat) (nm : ByteArray) (size : Int) : (#[.pointer (some ⟨D, 0, none⟩), .string nm, .pointer (some ⟨P, 0, none⟩), .int .i64 size, .slice none 0 0, .int .i64 0, .int .u32 0] : Array Value) = wcells D P (newWs nm size) (.slice none 0 0) := by
  unfold wcells newWs
  simp [sumN_nil]
theorem begin_create (s : St) (b : Bu) (nm : ByteArray) (size : Int) (hz : sizeB size = true) : createM s b nm size = if ¬ b.takeE 4 = 0 then (s, b.take 4, b.takeE 4) else if ¬ (beginR s nm.data.toList (headS size).data.toList).2 = 0 then ((beginR s nm.data.toList (headS size).data.toList).1, (b.take 4).give 4, (beginR s nm.data.toList (headS size).data.toList).2) else ((beginR s nm.data.toList (headS size).data.toList).1, b.take 4, 0) := by
  unfold createM beginR
  rw [if_neg (by rw [hz]; decide)]
  by_cases h1 : b.takeE 4 = 0 <;> by_cases h2 : (createR s nm.data.toList).2 = 0 <;> by_cases h3 : (appendR (createR s nm.data.toList).1 nm.data.toList (headS size).data.toList).2 = 0 <;> simp [h1, h2, h3]
set_option maxRecDepth 20000 in
set_option maxHeartbeats 4000000 in
theorem w_create (D P : Nat) (s : St) (b : Bu) (nm : ByteArray) (size : Int) (hsz : I64 size) (hn : nm.size ≤ 24) (hm : rightB nm.data.toList = true) (hc : s.calls ≤ 100000000000) (w : World) (B : Nat → Prop) (h : stars [DiskA D s, BuA P b] w B) :
    Calls Tryz.prog 115 #[.pointer (some ⟨D, 0, none⟩), .pointer (some ⟨P, 0, none⟩), .string nm, .int .i64 size] w (WMade D P w B nm size (createM s b nm size)) := by
  obtain ⟨R, hR⟩ : ∃ R, R = createM s b nm size := ⟨_, rfl⟩
  rw [← hR]
  have CH := Lib.hid (puthead_c size hsz)
  have HR := Lib.hid hR
  have H := Lib.hid h
  clear h hR
  cases hz : sizeB size
  · have hR := HR.out
    unfold createM at hR
    rw [if_pos hz] at hR
    have CH2 := CH.out
    rw [hz, headR_no hz] at CH2
    have CH3 := Lib.hid CH2
    subst hR
    clear hz CH2 CH
    go_enter Tryz.func115, Tryz.ntmps115
    go_wp2_with fail
    refine (CH3.out _).mono ?_; rintro e w1 ⟨rfl, g1⟩
    have HG := Lib.hid g1
    clear g1
    go_wp2_with fail
    go_ret2
    exact .inr ⟨by simp, rfl, B, stars_gr (frs_d2 _ _ _ _) H.out HG.out, Nx.gr HG.out⟩
  · have CH2 := CH.out
    rw [hz, headR_yes hz] at CH2
    have CH3 := Lib.hid CH2
    have hR := HR.out
    rw [begin_create s b nm size hz] at hR
    clear hz CH2 CH HR
    obtain ⟨c1, hc1⟩ : ∃ c1, c1 = b.takeE 4 := ⟨_, rfl⟩
    obtain ⟨⟨s1, e1⟩, hS1⟩ : ∃ X, X = beginR s nm.data.toList (headS size).data.toList := ⟨_, rfl⟩
    rw [← hc1, ← hS1] at hR
    have CT : ∀ w1, Gr w w1 → Calls Tryz.prog 91 #[.pointer (some ⟨P, 0, none⟩), .int .i64 4] w1 (Does w1 B (stars [DiskA D s, BuA P (b.take 4)]) (.int .i64 c1)) := by
      intro w1 g1
      have := does_at (f := 91) 1 rfl (frs_d2 _ _ _ _) (stars_gr (frs_d2 _ _ _ _) H.out g1) fun B2 h2 => bu_take P b 4 w1 B2 h2
      rw [← hc1] at this
      exact this
    have CB : ∀ w2 B2, stars [DiskA D s, BuA P (b.take 4)] w2 B2 → Calls Tryz.prog 140 #[.agg #[.pointer (some ⟨D, 0, none⟩), .string nm], .string (headS size)] w2 (Does w2 B2 (stars [DiskA D s1, BuA P (b.take 4)]) (.int .i64 e1)) := by
      intro w2 B2 h2
      have := does_at (f := 140) 0 rfl (frs_d2 _ _ _ _) h2 fun B3 h3 => snk_begin D s nm (headS size) hn hm (by omega) (by have := create_calls s nm.data.toList; omega) (headS_le size) w2 B3 h3
      rw [← hS1] at this
      exact this
    have CG := Lib.hid (fun w2 B2 (h2 : stars [DiskA D s1, BuA P (b.take 4)] w2 B2) => does_at (f := 92) (Q := BuA P ((b.take 4).give 4)) 1 rfl (frs_d2 _ _ _ _) h2 fun B3 h3 => bu_give P (b.take 4) 4 w2 B3 h3)
    have CTH := Lib.hid CT
    have CBH := Lib.hid CB
    have CLH := Lib.hid (fun u => clone_c nm u (by omega))
    have HR := Lib.hid hR
    clear CT CB hc1 hS1 hR hm hc
    by_cases h1 : c1 = 0
    · subst h1
      by_cases h2 : e1 = 0
      · subst h2
        obtain rfl : R = (s1, b.take 4, 0) := by have := HR.out; simpa using this
        go_enter Tryz.func115, Tryz.ntmps115
        go_wp2_with fail
        refine (CH3.out _).mono ?_; rintro e w1 ⟨rfl, g1⟩
        have CT1 := Lib.hid (CTH.out _ g1)
        have N1 := Lib.hid (Nx.gr (B := B) g1)
        clear g1
        go_wp2_with fail
        refine CT1.out.mono ?_; rintro e w2 hd
        obtain ⟨rfl, B2, h2, n2⟩ := hd
        have H2 := Lib.hid h2
        have N2 := Lib.hid (N1.out.trans n2)
        clear h2 n2 CT1
        go_wp2_with fail
        refine (CLH.out w2).mono ?_; rintro e u ⟨rfl, gu⟩
        obtain ⟨V, hV, gv, kv, hlt⟩ := snk_new D nm u
        obtain ⟨d0, d1⟩ := kv _ (Gr.refl _)
        have h3 := stars_gr (frs_d2 _ _ _ _) H2.out (gu.trans gv)
        have hnb : ¬ B2 u.heap.size := fun hb => by have := (fr_stars (frs_d2 _ _ _ _)).lo H2.out _ hb; have := gu.size; omega
        have CB1 := Lib.hid (CBH.out V B2 h3)
        have N3 := Lib.hid (N2.out.trans (Nx.gr (gu.trans gv)))
        have HV := Lib.hid hV
        clear h3 gu gv kv hV
        go_wp2_with fail
        rw [← HV.out]
        refine CB1.out.mono ?_; rintro e w4 hd
        obtain ⟨rfl, B4, h4, n4⟩ := hd
        have b0 := (n4.only.cell (p := ⟨u.heap.size, 0, none⟩) hlt hnb).trans d0
        have b1 := (n4.only.cell (p := ⟨u.heap.size, 1, none⟩) hlt hnb).trans d1
        have CG1 := Lib.hid (CG.out w4 B4 h4)
        have H4 := Lib.hid h4
        have N4 := Lib.hid (N3.out.trans n4)
        clear h4 n4 CB1 hnb d0 d1 hlt
        go_wp2_with fail
        go_ret2
        have ga : Gr w4 (w4.alloc (.cells (wcells D P (newWs nm size) (.slice none 0 0)) 173)) := (Gr.refl w4).alloc (Nat.le_refl _) _
        obtain ⟨B5, h5, n5⟩ := part_new (P := Blk w4.heap.size (wcells D P (newWs nm size) (.slice none 0 0)) 173) (L := [DiskA D s1, BuA P (b.take 4)]) (B' := fun b => b = w4.heap.size) (frs_d2 _ _ _ _) H4.out ga ⟨heap_alloc_new w4 _, fun _ => Iff.rfl⟩ (fun b hb => by omega)
        obtain ⟨B6, h6, n6⟩ := part_new (w' := w4.alloc (.cells (wcells D P (newWs nm size) (.slice none 0 0)) 173)) (P := RowA (.slice none 0 0) []) (L := [Blk w4.heap.size (wcells D P (newWs nm size) (.slice none 0 0)) 173, DiskA D s1, BuA P (b.take 4)]) ⟨fr_blk _ _ _, frs_d2 _ _ _ _⟩ h5 (Gr.refl _) (row_nil _) (fun b hb => hb.elim)
        rw [wnew]
        have h8 : stars (wl w4.heap.size D P s1 (b.take 4) (wcells D P (newWs nm size) (.slice none 0 0)) (.slice none 0 0) []) _ B6 := stars_perm (List.Perm.swap _ _ _) h6
        exact .inl ⟨rfl, w4.heap.size, rfl, B6, w3_close (m := ⟨s1, b.take 4, newWs nm size⟩) rfl ⟨_, h8⟩, (N4.out.trans n5).trans n6⟩
      · have t1 : (e1 == 0) = false := by simpa using h2
        have t2 : (e1 != 0) = true := by simpa using h2
        have HE := Lib.hid h2
        obtain rfl : R = (s1, (b.take 4).give 4, e1) := by have := HR.out; simpa [h2] using this
        clear h2
        go_enter Tryz.func115, Tryz.ntmps115
        go_wp2_with fail
        refine (CH3.out _).mono ?_; rintro e w1 ⟨rfl, g1⟩
        have CT1 := Lib.hid (CTH.out _ g1)
        have N1 := Lib.hid (Nx.gr (B := B) g1)
        clear g1
        go_wp2_with fail
        refine CT1.out.mono ?_; rintro e w2 hd
        obtain ⟨rfl, B2, h2, n2⟩ := hd
        have H2 := Lib.hid h2
        have N2 := Lib.hid (N1.out.trans n2)
        clear h2 n2 CT1
        go_wp2_with fail
        refine (CLH.out w2).mono ?_; rintro e u ⟨rfl, gu⟩
        obtain ⟨V, hV, gv, kv, hlt⟩ := snk_new D nm u
        obtain ⟨d0, d1⟩ := kv _ (Gr.refl _)
        have h3 := stars_gr (frs_d2 _ _ _ _) H2.out (gu.trans gv)
        have hnb : ¬ B2 u.heap.size := fun hb => by have := (fr_stars (frs_d2 _ _ _ _)).lo H2.out _ hb; have := gu.size; omega
        have CB1 := Lib.hid (CBH.out V B2 h3)
        have N3 := Lib.hid (N2.out.trans (Nx.gr (gu.trans gv)))
        have HV := Lib.hid hV
        clear h3 gu gv kv hV
        go_wp2_with fail
        rw [← HV.out]
        refine CB1.out.mono ?_; rintro e w4 hd
        obtain ⟨rfl, B4, h4, n4⟩ := hd
        have b0 := (n4.only.cell (p := ⟨u.heap.size, 0, none⟩) hlt hnb).trans d0
        have b1 := (n4.only.cell (p := ⟨u.heap.size, 1, none⟩) hlt hnb).trans d1
        have CG1 := Lib.hid (CG.out w4 B4 h4)
        have H4 := Lib.hid h4
        have N4 := Lib.hid (N3.out.trans n4)
        clear h4 n4 CB1 hnb d0 d1 hlt
        go_wp2_with fail
        refine CG1.out.mono ?_; rintro e w5 hd
        obtain ⟨rfl, B5, h5, n5⟩ := hd
        have H5 := Lib.hid h5
        have N5 := Lib.hid (N4.out.trans n5)
        clear h5 n5 CG1
        go_wp2_with fail
        go_ret2
        exact .inr ⟨HE.out, rfl, B5, H5.out, N5.out⟩
    · have t1 : (c1 == 0) = false := by simpa using h1
      have t2 : (c1 != 0) = true := by simpa using h1
      have HE := Lib.hid h1
      obtain rfl : R = (s, b.take 4, c1) := by have := HR.out; rwa [if_pos h1] at this
      clear h1
      go_enter Tryz.func115, Tryz.ntmps115
      go_wp2_with fail
      refine (CH3.out _).mono ?_; rintro e w1 ⟨rfl, g1⟩
      have CT1 := Lib.hid (CTH.out _ g1)
      have N1 := Lib.hid (Nx.gr (B := B) g1)
      clear g1
      go_wp2_with fail
      refine CT1.out.mono ?_; rintro e w2 hd
      obtain ⟨rfl, B2, h2, n2⟩ := hd
      have H2 := Lib.hid h2
      have N2 := Lib.hid (N1.out.trans n2)
      clear h2 n2 CT1
      go_wp2_with fail
      go_ret2
      exact .inr ⟨HE.out, rfl, B2, H2.out, N2.out⟩
end Go.Proofs.YtjplkmmhjfpdaaaGreatDoor
/- The program's reader as a part of its own, beside its disk and its budget: so that a writer can use both, too. -/
namespace Go.Proofs.YtjplkmmhjfpdaaaGreatDoor
open Go.RowKit FsPlain CrcPlain OctPlain FramePlain RecPlain RdPlain WrPlain
set_option linter.unusedVariables false
set_option linter.unusedSimpArgs false
set_option maxRecDepth 20000
def RdP (x D P : Nat) (y : Rs) : Asn := fun w B => (y.opn = true ∧ ∃ vq, stars [Blk x (rdc D P y vq (sumN y.all) false) 146, QueA vq y.queue] w B) ∨ (y.opn = false ∧ stars [Blk x (rdshut y.told (sumN y.all) y.whole) 146, QueA (.slice none 0 0) []] w B)
theorem frs_rd2 (x : Nat) (c : Array Value) (vq : Value) (queue : List ByteArray) : Frs [Blk x c 146, QueA vq queue] := ⟨fr_blk _ _ _, fr_que _ _, trivial⟩
theorem fr_rdp (x D P : Nat) (y : Rs) : Fr (RdP x D P y) where
  fr := fun h o d => h.imp (fun ⟨h1, vq, h⟩ => ⟨h1, vq, (fr_stars (frs_rd2 _ _ _ _)).fr h o d⟩) fun ⟨h1, h⟩ => ⟨h1, (fr_stars (frs_rd2 _ _ _ _)).fr h o d⟩
  lo := fun h => h.elim (fun ⟨_, vq, h⟩ => (fr_stars (frs_rd2 _ _ _ _)).lo h) fun ⟨_, h⟩ => (fr_stars (frs_rd2 _ _ _ _)).lo h
theorem perm_rd (a b c d : Asn) : [a, b, c, d].Perm [a, c, b, d] := (List.Perm.swap c b [d]).cons a
theorem rd_split {x D P : Nat} {m : N3} {w : World} {B : Nat → Prop} (h : RP3 x D P m w B) : stars [RdP x D P m.x, DiskA D m.s, BuA P m.b] w B := by
  have key : ∀ c vq q, stars (rol x D P m.s m.b c vq q) w B → ∃ B1 B2, stars [Blk x c 146, QueA vq q] w B1 ∧ stars [DiskA D m.s, BuA P m.b] w B2 ∧ (∀ b, B1 b → ¬ B2 b) ∧ ∀ b, B b ↔ B1 b ∨ B2 b := fun c vq q k =>
    (stars_app (L := [Blk x c 146, QueA vq q]) (M := [DiskA D m.s, BuA P m.b])).1 (stars_perm (perm_rd _ _ _ _) k)
  rcases h with ⟨h1, vq, h⟩ | ⟨h1, h⟩
  · obtain ⟨B1, B2, k1, k2, a, e⟩ := key _ _ _ h
    exact ⟨B1, B2, .inl ⟨h1, vq, k1⟩, k2, a, e⟩
  · obtain ⟨B1, B2, k1, k2, a, e⟩ := key _ _ _ h
    exact ⟨B1, B2, .inr ⟨h1, k1⟩, k2, a, e⟩
theorem rd_join {x D P : Nat} {m : N3} {w : World} {B : Nat → Prop} (h : stars [RdP x D P m.x, DiskA D m.s, BuA P m.b] w B) : RP3 x D P m w B := by
  obtain ⟨B1, B2, k1, k2, a, e⟩ := h
  have key : ∀ c vq q, stars [Blk x c 146, QueA vq q] w B1 → stars (rol x D P m.s m.b c vq q) w B := fun c vq q k =>
    stars_perm (perm_rd _ _ _ _) ((stars_app (L := [Blk x c 146, QueA vq q]) (M := [DiskA D m.s, BuA P m.b])).2 ⟨B1, B2, k, k2, a, e⟩)
  rcases k1 with ⟨h1, vq, h⟩ | ⟨h1, h⟩
  · exact .inl ⟨h1, vq, key _ _ _ h⟩
  · exact .inr ⟨h1, key _ _ _ h⟩
theorem rd_does {x D P : Nat} {m m' : N3} {f : FuncId} {args : Array Value} {v : Value} {w : World} {B : Nat → Prop} {M : List Asn} (hM : Frs M) (h : stars ([RdP x D P m.x, DiskA D m.s, BuA P m.b] ++ M) w B) (k : ∀ B, RP3 x D P m w B → Calls Tryz.prog f args w (Does w B (RP3 x D P m') v)) :
    Calls Tryz.prog f args w (Does w B (stars ([RdP x D P m'.x, DiskA D m'.s, BuA P m'.b] ++ M)) v) :=
  does_pre [RdP x D P m.x, DiskA D m.s, BuA P m.b] hM h fun B1 h1 => (k B1 (rd_join h1)).mono fun e w' ⟨he, B', h', n⟩ => ⟨he, B', rd_split h', n⟩
theorem rd_next {x D P : Nat} {m : N3} (hok : m.ok) (hi : m.inv) (ht : m.x.told ≤ 50000) (hc : m.s.calls ≤ 1000000000000) {w : World} {B : Nat → Prop} {M : List Asn} (hM : Frs M) (h : stars ([RdP x D P m.x, DiskA D m.s, BuA P m.b] ++ M) w B) :
    Calls Tryz.prog 114 #[.pointer (some ⟨x, 0, none⟩)] w (Does w B (stars ([RdP x D P (nextN m).1.x, DiskA D (nextN m).1.s, BuA P (nextN m).1.b] ++ M)) (ansV (nextN m).2)) :=
  rd_does hM h fun B1 h1 => rp_next x D P m hok hi ht hc w B1 h1
def RdMade (D P : Nat) (w : World) (B : Nat → Prop) (M : List Asn) (nm : ByteArray) (size : Int) (R : St × Bu × Int × Nat) (e : Ending) (w' : World) : Prop :=
  (R.2.2.1 = 0 ∧ ∃ x, Does w B (stars ([RdP x D P (newRs nm size R.2.2.2), DiskA D R.1, BuA P R.2.1] ++ M)) (.tuple #[.pointer (some ⟨x, 0, none⟩), .int .i64 0]) e w') ∨
  (R.2.2.1 ≠ 0 ∧ Does w B (stars ([DiskA D R.1, BuA P R.2.1] ++ M)) (.tuple #[.pointer none, .int .i64 R.2.2.1]) e w')
theorem rd_open {D P : Nat} {s : St} {b : Bu} {nm : ByteArray} {size : Int} (hsz : I64 size) (hs : s.ok) (hn : nm.size ≤ 24) (hm : rightB nm.data.toList = true) (hc : s.calls ≤ 100000000000) {w : World} {B : Nat → Prop} {M : List Asn} (hM : Frs M) (h : stars ([DiskA D s, BuA P b] ++ M) w B) :
    Calls Tryz.prog 93 #[.pointer (some ⟨D, 0, none⟩), .pointer (some ⟨P, 0, none⟩), .string nm, .int .i64 size] w (RdMade D P w B M nm size (openN s b nm size)) := by
  obtain ⟨B1, h1, nx⟩ := pre_nx [DiskA D s, BuA P b] hM h
  refine (rp_open D P s b nm size hsz hs hn hm hc w B1 h1).mono ?_
  rintro e w' (⟨h0, x, he, B', h', n⟩ | ⟨h0, he, B', h', n⟩)
  · obtain ⟨B3, k, n3⟩ := nx _ w' B' (rd_split h') n
    exact .inl ⟨h0, x, he, B3, k, n3⟩
  · obtain ⟨B3, k, n3⟩ := nx _ w' B' h' n
    exact .inr ⟨h0, he, B3, k, n3⟩
def WrMade (D P : Nat) (w : World) (B : Nat → Prop) (M : List Asn) (nm : ByteArray) (size : Int) (R : St × Bu × Int) (e : Ending) (w' : World) : Prop :=
  (R.2.2 = 0 ∧ ∃ x, Does w B (stars ([WrA x D P (newWs nm size), DiskA D R.1, BuA P R.2.1] ++ M)) (.tuple #[.pointer (some ⟨x, 0, none⟩), .int .i64 0]) e w') ∨
  (R.2.2 ≠ 0 ∧ Does w B (stars ([DiskA D R.1, BuA P R.2.1] ++ M)) (.tuple #[.pointer none, .int .i64 R.2.2]) e w')
theorem wr_create {D P : Nat} {s : St} {b : Bu} {nm : ByteArray} {size : Int} (hsz : I64 size) (hn : nm.size ≤ 24) (hm : rightB nm.data.toList = true) (hc : s.calls ≤ 100000000000) {w : World} {B : Nat → Prop} {M : List Asn} (hM : Frs M) (h : stars ([DiskA D s, BuA P b] ++ M) w B) :
    Calls Tryz.prog 115 #[.pointer (some ⟨D, 0, none⟩), .pointer (some ⟨P, 0, none⟩), .string nm, .int .i64 size] w (WrMade D P w B M nm size (createM s b nm size)) := by
  obtain ⟨B1, h1, nx⟩ := pre_nx [DiskA D s, BuA P b] hM h
  refine (w_create D P s b nm size hsz hn hm hc w B1 h1).mono ?_
  rintro e w' (⟨h0, x, he, B', h', n⟩ | ⟨h0, he, B', h', n⟩)
  · obtain ⟨B3, k, n3⟩ := nx [WrA x D P (newWs nm size), DiskA D (createM s b nm size).1, BuA P (createM s b nm size).2.1] w' B' h' n
    exact .inl ⟨h0, x, he, B3, k, n3⟩
  · obtain ⟨B3, k, n3⟩ := nx _ w' B' h' n
    exact .inr ⟨h0, he, B3, k, n3⟩
theorem wr_does {x D P : Nat} {m m' : M3} {f : FuncId} {args : Array Value} {v : Value} {w : World} {B : Nat → Prop} {M : List Asn} (hM : Frs M) (h : stars ([WrA x D P m.x, DiskA D m.s, BuA P m.b] ++ M) w B) (k : ∀ B, W3 x D P m w B → Calls Tryz.prog f args w (Does w B (W3 x D P m') v)) :
    Calls Tryz.prog f args w (Does w B (stars ([WrA x D P m'.x, DiskA D m'.s, BuA P m'.b] ++ M)) v) :=
  does_pre (L' := [WrA x D P m'.x, DiskA D m'.s, BuA P m'.b]) [WrA x D P m.x, DiskA D m.s, BuA P m.b] hM h fun B1 h1 => k B1 h1
theorem wr_put {x D P : Nat} {m : M3} (r : ByteArray) (hm : m.ok) (hal : m.x.all.length ≤ 100000) (hc : m.s.calls ≤ 100000000000) {w : World} {B : Nat → Prop} {M : List Asn} (hM : Frs M) (h : stars ([WrA x D P m.x, DiskA D m.s, BuA P m.b] ++ M) w B) :
    Calls Tryz.prog 117 #[.pointer (some ⟨x, 0, none⟩), .string r] w (Does w B (stars ([WrA x D P (putM m r).1.x, DiskA D (putM m r).1.s, BuA P (putM m r).1.b] ++ M)) (.int .i64 (putM m r).2)) :=
  wr_does hM h fun B1 h1 => w_put x D P m r hm hal hc w B1 h1
theorem wr_close {x D P : Nat} {m : M3} (hm : m.ok) (hal : m.x.all.length ≤ 100000) (hc : m.s.calls ≤ 100000000000) {w : World} {B : Nat → Prop} {M : List Asn} (hM : Frs M) (h : stars ([WrA x D P m.x, DiskA D m.s, BuA P m.b] ++ M) w B) :
    Calls Tryz.prog 118 #[.pointer (some ⟨x, 0, none⟩)] w (Does w B (stars ([WrA x D P (closeM m).1.x, DiskA D (closeM m).1.s, BuA P (closeM m).1.b] ++ M)) (closeV m (closeM m).2)) :=
  wr_does hM h fun B1 h1 => w_close x D P m hm hal hc w B1 h1
end Go.Proofs.YtjplkmmhjfpdaaaGreatDoor
/- Contracts of calls that are put off (made by gen/defer.py out of the plain ones' texts). -/
namespace Go.Proofs.YtjplkmmhjfpdaaaGreatDoor
open Go.RowKit FsPlain CrcPlain OctPlain FramePlain RecPlain RdPlain WrPlain
set_option linter.unusedVariables false
set_option linter.unusedSimpArgs false
set_option maxRecDepth 20000
set_option maxHeartbeats 1000000 in
theorem bgive_d (u : FrameMode) (p : Nat) (b : Bu) (n : Int) (w : World) (h : BAt w p b) :
    CallsD Tryz.prog 92 #[.pointer (some ⟨p, 0, none⟩), .int .i64 n] u w fun e u' w' => u' = u ∧ ((BTaken p (b.give n) w (.tuple #[]))) e w' := by
  have C := bmade_c p b w h
  have c2 : w.cell? ⟨p, 2, none⟩ = some (.int .i64 b.now) := by rw [cells_at h.2]; rfl
  have f2 := cells_free h.2 2
  have H := Lib.hid h
  obtain ⟨⟨n0, n1, h1, m1⟩, _⟩ := h
  by_cases h3 : n < 0
  · go_enter_d Tryz.func92, Tryz.ntmps92
    go_wp2_with fail
    refine C.mono ?_; rintro e w2 ⟨rfl, rfl⟩
    go_wp2_with fail
    refine bodyPost_ret (results_none rfl _ _ _) rfl ?_
    rw [show b.give n = b by unfold Bu.give; rw [if_pos h3]]
    exact ⟨rfl, H.out, Only.refl _ _⟩
  · have K := Lib.hid (fun a (ha : a = b.now - min n b.now) => bgive_of (n := n) (a := a) H.out (by omega) ha)
    go_enter_d Tryz.func92, Tryz.ntmps92
    go_wp2_with fail
    refine C.mono ?_; rintro e w2 ⟨rfl, rfl⟩
    go_wp2_with fail
    go_region
    all_goals go_wp2_with fail
    all_goals
      go_end0
      refine ⟨rfl, K.out _ ?_⟩; omega
theorem rp_close_d (u : FrameMode) (x D P : Nat) (m : N3) (hi : m.inv) (w : World) (B : Nat → Prop) (h : RP3 x D P m w B) :
    CallsD Tryz.prog 94 #[.pointer (some ⟨x, 0, none⟩)] u w fun e u' w' => u' = u ∧ ((Does w B (RP3 x D P (closeN m)) (.tuple #[]))) e w' := by
  cases ho : m.x.opn
  · have e : closeN m = m := by unfold closeN; rw [ho]; rfl
    rw [e]
    have CO := Lib.hid (ropen_no x w (by rw [cells_at (rsh_blk (rp3_shut ho h))]; rfl))
    have H := Lib.hid h
    clear h e ho hi
    go_enter_d Tryz.func94, Tryz.ntmps94
    go_wp2_with fail
    refine CO.out.mono ?_; rintro e w2 ⟨rfl, rfl⟩
    go_wp2_with fail
    go_end0
    exact ⟨rfl, B, H.out, Nx.refl _ _⟩
  · have e : closeN m = ⟨m.s, m.b.give 4, { m.x with bad := true, opn := false }⟩ := by unfold closeN wrongN shutN; rw [if_pos ho, if_pos (show m.isBad.x.opn = true from ho)]; rfl
    rw [e]
    have h := rp3_open ho h
    have CO := Lib.hid (ropen_yes x ⟨D, 0, none⟩ w (ro_start h).1)
    have CS := Lib.hid (r_stop x D P m false w B h)
    have HW := Lib.hid (hi.o ho).2
    clear h e ho hi
    go_enter_d Tryz.func94, Tryz.ntmps94
    go_wp2_with fail
    refine CO.out.mono ?_; rintro e w2 ⟨rfl, rfl⟩
    go_wp2_with fail
    refine CS.out.mono ?_; rintro e w2 hd
    obtain ⟨rfl, B2, h2, n2⟩ := hd
    have H2 := Lib.hid h2
    have N2 := Lib.hid n2
    clear h2 n2 CS
    go_wp2_with fail
    go_end0
    refine ⟨rfl, B2, .inr ⟨rfl, ?_⟩, N2.out⟩
    have := H2.out
    rw [show ({ m.x with bad := true, opn := false } : Rs).whole = false from HW.out]
    exact this
set_option maxRecDepth 20000 in
set_option maxHeartbeats 2000000 in
theorem w_drop_d (u : FrameMode) (x D P : Nat) (m : M3) (w : World) (B : Nat → Prop) (h : W3 x D P m w B) :
    CallsD Tryz.prog 116 #[.pointer (some ⟨x, 0, none⟩)] u w fun e u' w' => u' = u ∧ ((Does w B (W3 x D P (dropM m)) (.tuple #[]))) e w' := by
  cases ho : m.x.opn
  · have e : dropM m = m := by unfold dropM; rw [ho]; rfl
    rw [e]
    have c0 : w.cell? ⟨x, 0, none⟩ = some (.pointer none) := by rw [cells_at (w3_shut ho h)]; rfl
    have CO := Lib.hid (wopen_no x w c0)
    have H := Lib.hid h
    clear h e ho c0
    go_enter_d Tryz.func116, Tryz.ntmps116
    go_wp2_with fail
    refine CO.out.mono ?_; rintro e w2 ⟨rfl, rfl⟩
    go_wp2_with fail
    go_end0
    exact ⟨rfl, B, H.out, Nx.refl _ _⟩
  · have e : dropM m = ⟨m.s, m.b.give 4, { m.x with opn := false }⟩ := by unfold dropM; rw [ho]; rfl
    rw [e]
    obtain ⟨vw, h⟩ := w3_open ho h
    have hb := wl_blk h
    have hxl := lt_of_block hb
    have CO := Lib.hid (wopen_yes x ⟨D, 0, none⟩ w (by rw [cells_at hb]; rfl))
    have c2 : w.cell? ⟨x, 2, none⟩ = some (.pointer (some ⟨P, 0, none⟩)) := by rw [cells_at hb]; rfl
    have C := does_at (f := 92) (Q := BuA P (m.b.give 4)) 3 rfl (frs_wl _ _ _ _ _ _ _ _) h fun B2 h2 => bu_give P m.b 4 w B2 h2
    have HC := Lib.hid C
    clear h hb C e ho
    go_enter_d Tryz.func116, Tryz.ntmps116
    go_wp2_with fail
    refine CO.out.mono ?_; rintro e w2 ⟨rfl, rfl⟩
    go_wp2_with fail
    refine HC.out.mono ?_; rintro e w2 hd
    obtain ⟨rfl, B2, h2, n2⟩ := hd
    have hb := wl_blk h2
    have c5 : w2.cell? ⟨x, 5, none⟩ = some (.int .i64 m.x.all.length) := by rw [cells_at hb]; rfl
    have f0 := cells_free hb 0
    have f1 := cells_free hb 1
    have f2 := cells_free hb 2
    have f3 := cells_free hb 3
    have f4 := cells_free hb 4
    have f5 := cells_free hb 5
    have f6 := cells_free hb 6
    have b0 : w2.cell? ⟨x, 0, none⟩ = some (.pointer (some ⟨D, 0, none⟩)) := by rw [cells_at hb]; rfl
    have b1 : w2.cell? ⟨x, 1, none⟩ = some (.string m.x.nm) := by rw [cells_at hb]; rfl
    have b2 : w2.cell? ⟨x, 2, none⟩ = some (.pointer (some ⟨P, 0, none⟩)) := by rw [cells_at hb]; rfl
    have b3 : w2.cell? ⟨x, 3, none⟩ = some (.int .i64 m.x.size) := by rw [cells_at hb]; rfl
    have b4 : w2.cell? ⟨x, 4, none⟩ = some vw := by rw [cells_at hb]; rfl
    have b6 : w2.cell? ⟨x, 6, none⟩ = some (.int .u32 (sumN m.x.all : Nat)) := by rw [cells_at hb]; rfl
    have SH := Lib.hid (wl_shut (y := m.x) (x := x) (D := D) (P := P) (s := m.s) (b := m.b.give 4) (wait := m.x.wait) m.x.all.length rfl h2)
    have N2 := Lib.hid n2
    clear h2 n2 hb HC
    go_wp2_with fail
    go_end0
    obtain ⟨B3, h3, n3⟩ := SH.out
    exact ⟨rfl, B3, h3, N2.out.trans n3⟩
end Go.Proofs.YtjplkmmhjfpdaaaGreatDoor
