/- In one text: Wr6, RecHead, Rwr5. -/
import Derived.Test.YtcpaaenjfljocaaGreatP17
import Derived.Test.YtcpaaenjfljocaaGreatP18
import Derived.StillTailTactics
import Derived.Test.YtcpaaenjfljocaaGreatP09
import Derived.Test.YtcpaaenjfljocaaGreatP10
/- The program's writer: Close. -/
namespace Go.Proofs.YtcpaaenjfljocaaGreat
open Go.RowKit FsPlain CrcPlain OctPlain FramePlain RecPlain WrPlain
set_option linter.unusedVariables false
set_option linter.unusedSimpArgs false
theorem w_close_shut (x D P : Nat) (m : M3) (ho : m.x.opn = false) (w : World) (B : Nat → Prop) (h : W3 x D P m w B) :
    Calls Tryz.prog 22 #[.pointer (some ⟨x, 0, none⟩)] w (Does w B (W3 x D P m) (.tuple #[.agg #[.int .i64 0, .int .u32 0], .int .i64 14])) := by
  have H := Lib.hid h
  have hb := w3_shut ho h
  have hxl := lt_of_block hb
  have CO := Lib.hid (fun u (g : Gr w u) => wopen_no x u (by rw [g.cell (p := ⟨x, 0, none⟩) hxl, cells_at hb]; rfl))
  have g0 : Gr w (w.alloc (.cells #[.int .i64 0, .int .u32 0] 50)) := (Gr.refl w).alloc (Nat.le_refl _) _
  clear h hb ho
  go_enter Tryz.func22, Tryz.ntmps22
  go_wp2_with fail
  refine (CO.out _ g0).mono ?_; rintro e w2 ⟨rfl, rfl⟩
  go_wp2_with fail
  refine bodyPost_ret (v := .tuple #[.agg #[.int .i64 0, .int .u32 0], .int .i64 14]) ?_ rfl ⟨rfl, B, star_gr (fr_stars (frs_w3 _ _ _ _)) H.out g0, Nx.gr g0⟩
  rw [results_cell_tmp Tryz.results22]
  simp [go_sem]
/-- The three, beside a result and a variable. -/
def y5 (x D P q0 q1 : Nat) (n0 s0 n1 s1 : Int) (m : M3) : List Asn := [Blk q1 (infoC n1 s1) 50, Blk q0 (infoC n0 s0) 50, WrA x D P m.x, DiskA D m.s, BuA P m.b]
theorem frs_y5 (x D P q0 q1 : Nat) (n0 s0 n1 s1 : Int) (m : M3) : Frs (y5 x D P q0 q1 n0 s0 n1 s1 m) := ⟨fr_blk _ _ _, fr_blk _ _ _, fr_wr _ _ _ _, fr_disk _ _, fr_bu _ _, trivial⟩
theorem y5_w3 {x D P q0 q1 : Nat} {n0 s0 n1 s1 : Int} {m : M3} {w w' : World} {B B' : Nat → Prop} (h : stars (y5 x D P q0 q1 n0 s0 n1 s1 m) w' B') (n : Nx B w B' w') : ∃ B', W3 x D P m w' B' ∧ Nx B w B' w' := by
  obtain ⟨B1, B2, _, r, _, e⟩ := stars_app (L := [Blk q1 (infoC n1 s1) 50, Blk q0 (infoC n0 s0) 50]).1 h
  exact ⟨B2, r, n.less fun b hb => (e b).2 (.inr hb)⟩
/-- The result is stored. -/
theorem y5_ret {x D P q0 q1 : Nat} {n0 s0 n1 s1 n' s' : Int} {m : M3} {w w' : World} {B B' : Nat → Prop} (h : stars (y5 x D P q0 q1 n0 s0 n1 s1 m) w' B') (n : Nx B w B' w') :
    ∃ B2, W3 x D P m ((w'.setCell ⟨q0, 0, none⟩ (.int .i64 n')).setCell ⟨q0, 1, none⟩ (.int .u32 s')) B2 ∧ Nx B w B2 ((w'.setCell ⟨q0, 0, none⟩ (.int .i64 n')).setCell ⟨q0, 1, none⟩ (.int .u32 s')) ∧
      ((w'.setCell ⟨q0, 0, none⟩ (.int .i64 n')).setCell ⟨q0, 1, none⟩ (.int .u32 s')).cell? ⟨q0, 0, none⟩ = some (.int .i64 n') ∧ ((w'.setCell ⟨q0, 0, none⟩ (.int .i64 n')).setCell ⟨q0, 1, none⟩ (.int .u32 s')).cell? ⟨q0, 1, none⟩ = some (.int .u32 s') := by
  obtain ⟨B1, h1, k1⟩ := step_at (w' := w'.setCell ⟨q0, 0, none⟩ (.int .i64 n')) (Q := Blk q0 (infoC n' s0) 50) 1 rfl (frs_y5 _ _ _ _ _ _ _ _ _ _) h fun B1 h1 => blk_next h1 (.int .i64 n')
  obtain ⟨B2, h2, k2⟩ := step_at (w' := (w'.setCell ⟨q0, 0, none⟩ (.int .i64 n')).setCell ⟨q0, 1, none⟩ (.int .u32 s')) (Q := Blk q0 (infoC n' s') 50) 1 rfl (frs_y5 x D P q0 q1 n' s0 n1 s1 m) h1 fun B1 h1 => blk_next h1 (.int .u32 s')
  obtain ⟨_, hb, _⟩ := part_at 1 rfl h2
  obtain ⟨B3, h3, n3⟩ := y5_w3 (x := x) (q0 := q0) (q1 := q1) (n0 := n') (s0 := s') (n1 := n1) (s1 := s1) (m := m) h2 ((n.trans k1).trans k2)
  exact ⟨B3, h3, n3, by rw [cells_at hb.1]; rfl, by rw [cells_at hb.1]; rfl⟩
set_option maxRecDepth 20000 in
set_option maxHeartbeats 4000000 in
theorem w_close_open (x D P : Nat) (m : M3) (hm : m.ok) (hal : m.x.all.length ≤ 100000) (hc : m.s.calls ≤ 100000000000) (ho : m.x.opn = true) (w : World) (B : Nat → Prop) (h : W3 x D P m w B) :
    Calls Tryz.prog 22 #[.pointer (some ⟨x, 0, none⟩)] w (Does w B (W3 x D P (closeM m).1) (closeV m (closeM m).2)) := by
  obtain ⟨T, hT⟩ : ∃ T, T = blkS m.x.size m.x.wait := ⟨_, rfl⟩
  obtain ⟨k, hk⟩ : ∃ k : Nat, k = m.x.all.length := ⟨_, rfl⟩
  obtain ⟨s, hs⟩ : ∃ s : Nat, s = sumN m.x.all := ⟨_, rfl⟩
  obtain ⟨E, hE⟩ : ∃ E, E = peS k s := ⟨_, rfl⟩
  have hfc := fin_close (E := E) ho hT (by rw [hE, hk, hs])
  obtain ⟨V, hV⟩ : ∃ V, V = closeV m (closeM m).2 := ⟨_, rfl⟩
  rw [← hV]
  have hfo := (finM_x m T E).2.1
  obtain ⟨F, hF⟩ : ∃ F, F = finM m T E := ⟨_, rfl⟩
  rw [← hF] at hfc hfo
  have HV := Lib.hid (show V = .tuple #[.agg #[.int .i64 (if F.2 = 0 then (k : Int) else 0), .int .u32 (if F.2 = 0 then (s : Int) else 0)], .int .i64 F.2] by rw [hV, hk, hs, hfc.2.2.2.2.2]; rfl)
  have CF := Lib.hid (fun w1 B1 (h1 : WO x D P m w1 B1) => by have := w_finish x D P m T E k s hT hE (by rw [hT]; exact blkS_le hm.z (by have := hm.wl; omega) hm.wz) (by rw [hE]; exact peS_le _ _) hk hs hal hm hc w1 B1 h1; rw [← hF] at this; exact this)
  have h1 := w3_open ho h
  have g0 : Gr w (w.alloc (.cells #[.int .i64 0, .int .u32 0] 50)) := (Gr.refl w).alloc (Nat.le_refl _) _
  obtain ⟨vw, h2⟩ := h1
  have hb := wl_blk h2
  have hxl := lt_of_block hb
  have c5 : w.cell? ⟨x, 5, none⟩ = some (.int .i64 k) := by rw [cells_at hb, hk]; rfl
  have c6 : w.cell? ⟨x, 6, none⟩ = some (.int .u32 s) := by rw [cells_at hb, hs]; rfl
  have CO := Lib.hid (fun u (g : Gr w u) => wopen_yes x ⟨D, 0, none⟩ u (by rw [g.cell (p := ⟨x, 0, none⟩) hxl, cells_at hb]; rfl))
  obtain ⟨B0, p0, n0⟩ := part_new (P := Blk w.heap.size (infoC 0 0) 50) (L := [WrA x D P m.x, DiskA D m.s, BuA P m.b]) (B' := fun b => b = w.heap.size) (frs_w3 _ _ _ _) h g0 ⟨heap_alloc_new w _, fun _ => Iff.rfl⟩ (fun b hb => by omega)
  have P0 := Lib.hid p0
  have N0 := Lib.hid n0
  have HO := Lib.hid ho
  have HFC := Lib.hid hfc
  have HFO := Lib.hid (show F.1.x.opn = true by rw [hfo, ho])
  clear h h2 p0 n0 hb hT hE hk hs hV hF hfc hfo hm hal hc ho
  go_enter Tryz.func22, Tryz.ntmps22
  go_wp2_with fail
  refine (CO.out _ g0).mono ?_; rintro e w2 ⟨rfl, rfl⟩
  go_wp2_with fail
  obtain ⟨U, hU⟩ : ∃ U, U = w.alloc (.cells #[.int .i64 0, .int .u32 0] 50) := ⟨_, rfl⟩
  have u5 : U.cell? ⟨x, 5, none⟩ = some (.int .i64 k) := by rw [hU, g0.cell (p := ⟨x, 5, none⟩) hxl]; exact c5
  have u6 : U.cell? ⟨x, 6, none⟩ = some (.int .u32 s) := by rw [hU, g0.cell (p := ⟨x, 6, none⟩) hxl]; exact c6
  rw [← hU]
  have HU := Lib.hid hU
  rw [← hU] at g0
  clear hU
  have hne := World.new_ne U ⟨x, 5, none⟩ u5
  go_region_held3 (fun w' => w'.cell? ⟨x, 5, none⟩ = some (.int .i64 k) ∧ w'.cell? ⟨x, 6, none⟩ = some (.int .u32 s)) (first | exact ⟨u5, u6⟩ | go_keep) (fail)
  go_wp2_with fail
  obtain ⟨B1, p1, n1⟩ := part_new (P := Blk U.heap.size (infoC k s) 50) (L := [Blk w.heap.size (infoC 0 0) 50, WrA x D P m.x, DiskA D m.s, BuA P m.b]) (B' := fun b => b = U.heap.size) ⟨fr_blk _ _ _, frs_w3 _ _ _ _⟩ (by have := P0.out; rw [← HU.out] at this; exact this) ((Gr.refl U).alloc (Nat.le_refl _) (.cells #[.int .i64 (k : Nat), .int .u32 (s : Nat)] 50)) ⟨heap_alloc_new U _, fun _ => Iff.rfl⟩ (fun b hb => by omega)
  obtain ⟨V1, hV1⟩ : ∃ V1, V1 = (U.alloc (.cells #[.int .i64 (k : Nat), .int .u32 (s : Nat)] 50)).drew := ⟨_, rfl⟩
  rw [← hV1]
  have g1 : Gr (U.alloc (.cells #[.int .i64 (k : Nat), .int .u32 (s : Nat)] 50)) V1 := by rw [hV1]; exact (Gr.refl _).drew
  have p2 := stars_gr (frs_y5 x D P w.heap.size U.heap.size 0 0 k s m) p1 g1
  have n0' := N0.out
  rw [← HU.out] at n0'
  have N2 := Lib.hid ((n0'.trans n1).trans (Nx.gr g1))
  have CFF : Calls Tryz.prog 50 #[.pointer (some ⟨x, 0, none⟩), .agg #[.int .i64 (k : Nat), .int .u32 (s : Nat)]] V1 (Does V1 B1 (stars (y5 x D P w.heap.size U.heap.size 0 0 k s F.1)) (.int .i64 F.2)) :=
    does_suf [Blk U.heap.size (infoC k s) 50, Blk w.heap.size (infoC 0 0) 50] (M := [WrA x D P m.x, DiskA D m.s, BuA P m.b]) (M' := [WrA x D P F.1.x, DiskA D F.1.s, BuA P F.1.b]) ⟨fr_blk _ _ _, fr_blk _ _ _, trivial⟩ p2 fun B3 p3 => (CF.out V1 B3 (w3_open HO.out p3)).mono fun e w' hd => hd.imp fun B' q => w3_close HFO.out q
  have CFH := Lib.hid CFF
  clear p1 p2 n1 n0' g1 CFF hV1 u5 u6 hne g0
  refine CFH.out.mono ?_; rintro e w4 hd
  obtain ⟨rfl, B4, h4, n4⟩ := hd
  have CD : Calls Tryz.prog 20 #[.pointer (some ⟨x, 0, none⟩)] w4 (Does w4 B4 (stars (y5 x D P w.heap.size U.heap.size 0 0 k s (closeM m).1)) (.tuple #[])) :=
    does_suf [Blk U.heap.size (infoC k s) 50, Blk w.heap.size (infoC 0 0) 50] (M := [WrA x D P F.1.x, DiskA D F.1.s, BuA P F.1.b]) (M' := [WrA x D P (closeM m).1.x, DiskA D (closeM m).1.s, BuA P (closeM m).1.b]) ⟨fr_blk _ _ _, fr_blk _ _ _, trivial⟩ h4 fun B3 p3 => (w_drop x D P F.1 w4 B3 p3).mono fun e w' hd => hd.imp fun B' q => shut_same HFC.out.1 HFC.out.2.1 HFC.out.2.2.1 HFC.out.2.2.2.1 HFC.out.2.2.2.2.1 q
  have CDH := Lib.hid CD
  have N4 := Lib.hid (N2.out.trans n4)
  clear h4 n4 CD CFH
  go_wp2_with fail
  refine CDH.out.mono ?_; rintro e w5 hd
  obtain ⟨rfl, B5, h5, n5⟩ := hd
  obtain ⟨_, hb1, _⟩ := part_at 0 rfl h5
  obtain ⟨_, hb0, _⟩ := part_at 1 rfl h5
  have k0 : w5.cell? ⟨U.heap.size, 0, none⟩ = some (.int .i64 k) := by rw [cells_at hb1.1]; rfl
  have k1 : w5.cell? ⟨U.heap.size, 1, none⟩ = some (.int .u32 s) := by rw [cells_at hb1.1]; rfl
  have k2 : w5.cell? ⟨w.heap.size, 0, none⟩ = some (.int .i64 0) := by rw [cells_at hb0.1]; rfl
  have k3 : w5.cell? ⟨w.heap.size, 1, none⟩ = some (.int .u32 0) := by rw [cells_at hb0.1]; rfl
  have f0 := cells_free hb0.1 0
  have f1 := cells_free hb0.1 1
  have H5 := Lib.hid h5
  have N5 := Lib.hid (N4.out.trans n5)
  clear h5 n5 hb1 hb0 CDH
  obtain ⟨⟨M, ec⟩, rfl⟩ : ∃ X, X = F := ⟨_, rfl⟩
  by_cases h0 : ec = 0
  · subst h0
    have HV2 := HV.out
    simp only [if_true] at HV2
    subst HV2
    go_wp2_with fail
    obtain ⟨B6, h6, n6, r0, r1⟩ := y5_ret (n' := k) (s' := s) H5.out N5.out
    refine bodyPost_ret (info_ret Tryz.results22 rfl rfl r0 r1) rfl ?_
    exact ⟨rfl, B6, h6, n6⟩
  · have t1 : (ec == 0) = false := by simpa using h0
    have t2 : (ec != 0) = true := by simpa using h0
    have HV2 := HV.out
    simp only [if_neg h0] at HV2
    subst HV2
    clear h0
    go_wp2_with fail
    obtain ⟨B6, h6, n6, r0, r1⟩ := y5_ret (n' := 0) (s' := 0) H5.out N5.out
    refine bodyPost_ret (info_ret Tryz.results22 rfl rfl r0 r1) rfl ?_
    exact ⟨rfl, B6, h6, n6⟩
theorem w_close (x D P : Nat) (m : M3) (hm : m.ok) (hal : m.x.all.length ≤ 100000) (hc : m.s.calls ≤ 100000000000) (w : World) (B : Nat → Prop) (h : W3 x D P m w B) :
    Calls Tryz.prog 22 #[.pointer (some ⟨x, 0, none⟩)] w (Does w B (W3 x D P (closeM m).1) (closeV m (closeM m).2)) := by
  cases ho : m.x.opn
  · have e : closeM m = (m, 14) := by unfold closeM; rw [if_pos ho]
    rw [e]
    exact w_close_shut x D P m ho w B h
  · exact w_close_open x D P m hm hal hc ho w B h
end Go.Proofs.YtcpaaenjfljocaaGreat
/- Contracts of a file's head: both PutHeads, both GetHeads. -/
namespace Go.Proofs.YtcpaaenjfljocaaGreat
open Go.RowKit CrcPlain OctPlain FramePlain RecPlain
set_option linter.unusedVariables false
set_option linter.unusedSimpArgs false
theorem rsized_c (k : Int) (hk : I64 k) (w : World) :
    Calls Tryz.prog 59 #[.int .i64 k] w fun e w' => e = .returned (.bool (sizeB k)) ∧ w = w' := by
  have hr : 0 ≤ roomN k ∧ decide (0 < roomN k) = sizeB k := by
    unfold roomN
    cases hs : sizeB k
    · exact ⟨by simp, rfl⟩
    · have h := hs
      simp only [sizeB, decide_eq_true_eq] at h
      rw [if_pos rfl]
      exact ⟨by omega, decide_eq_true (by omega)⟩
  have R := fun w => room_c k hk w
  generalize roomN k = r at R hr
  obtain ⟨h0, hr⟩ := hr
  have HR := Lib.hid hr
  clear hr
  go_enter Tryz.func59, Tryz.ntmps59
  go_wp2_with fail
  refine (R _).mono ?_; rintro e u ⟨rfl, rfl⟩
  go_wp2_with fail
  go_ret
  exact ⟨retb HR.out, rfl⟩
theorem head_app (m : Int) : ByteArray.mk #[67, 72, 65, 73, 78, 49] ++ bs [UInt8.ofNat m.toNat] = bs (nameL ++ [UInt8.ofNat m.toNat]) := by
  have : ByteArray.mk #[67, 72, 65, 73, 78, 49] = bs nameL := rfl
  rw [this, bs_app]
set_option maxHeartbeats 1000000 in
theorem puthead_c (k : Int) (hk : I64 k) (w : World) :
    Calls Tryz.prog 34 #[.int .i64 k] w fun e w' => e = .returned (.tuple #[.string (headR k), .bool (sizeB k)]) ∧ Gr w w' := by
  have R := fun w => rsized_c k hk w
  cases hs : sizeB k
  · rw [hs] at R
    have HR := Lib.hid (headR_no hs)
    clear hs
    go_enter Tryz.func34, Tryz.ntmps34
    go_wp2_with fail
    refine (R _).mono ?_; rintro e u ⟨rfl, rfl⟩
    go_wp2_with fail
    go_ret2
    exact ⟨ret_sb HR.out.symm rfl, Gr.refl _⟩
  · rw [hs] at R
    have HR := Lib.hid (headR_yes hs)
    simp only [sizeB, decide_eq_true_eq] at hs
    have hc1 := fun u => conv1 u k (by omega) (by omega)
    have s1 : (bs [UInt8.ofNat k.toNat]).size = 1 := bs_size _
    have C := fun w => close_c (bs (nameL ++ [UInt8.ofNat k.toNat])) (by rw [bs_size]; simp [nameL]) w
    rw [← head_app] at C
    have E := Lib.hid (head_app k)
    go_enter Tryz.func34, Tryz.ntmps34
    go_wp2_with fail
    refine (R _).mono ?_; rintro e u ⟨rfl, rfl⟩
    go_wp2_with fail
    refine (C _).mono ?_; rintro e u2 ⟨rfl, g2⟩
    go_wp2_with fail
    go_ret2
    exact ⟨ret_sb (by rw [HR.out, E.out]; rfl) rfl, Gr.trans (Below.alloc (Below.refl _ _) (Nat.le_refl _) _) g2⟩
set_option maxHeartbeats 1000000 in
theorem rputhead_c (k : Int) (hk : I64 k) (w : World) :
    Calls Tryz.prog 39 #[.int .i64 k] w fun e w' => e = .returned (.tuple #[.string (headR k), .bool (sizeB k)]) ∧ Gr w w' := by
  cases hs : sizeB k
  · have HR := Lib.hid (headR_no hs)
    simp only [sizeB, decide_eq_false_iff_not] at hs
    by_cases h1 : k < 1
    · clear hs
      go_enter Tryz.func39, Tryz.ntmps39
      go_wp2_with fail
      go_ret2
      exact ⟨ret_sb HR.out.symm rfl, Gr.refl _⟩
    · have h2 : 64 < k := by omega
      clear hs
      go_enter Tryz.func39, Tryz.ntmps39
      go_wp2_with fail
      go_ret2
      exact ⟨ret_sb HR.out.symm rfl, Gr.refl _⟩
  · have HR := Lib.hid (headR_yes hs)
    simp only [sizeB, decide_eq_true_eq] at hs
    have h1 : ¬ k < 1 := by omega
    have h2 : ¬ 64 < k := by omega
    have hc1 := fun u => conv1 u k (by omega) (by omega)
    have s1 : (bs [UInt8.ofNat k.toNat]).size = 1 := bs_size _
    have C := fun w => rclose_c (bs (nameL ++ [UInt8.ofNat k.toNat])) (by rw [bs_size]; simp [nameL]) w
    rw [← head_app] at C
    have E := Lib.hid (head_app k)
    go_enter Tryz.func39, Tryz.ntmps39
    go_wp2_with fail
    refine (C _).mono ?_; rintro e u2 ⟨rfl, g2⟩
    go_wp2_with fail
    go_ret2
    exact ⟨ret_sb (by rw [HR.out, E.out]; rfl) rfl, Gr.trans (Below.alloc (Below.refl _ _) (Nat.le_refl _) _) g2⟩
/-- What eleven bytes say of a size. -/
def ghK (s : ByteArray) : Int := if h : 6 < s.size then (s[6].toNat : Int) else 0
def ghB (s : ByteArray) : Bool := decide (s.size = 11) && sizeB (ghK s) && decide (headR (ghK s) = s)
def ghN (s : ByteArray) : Int := if ghB s = true then ghK s else 0
theorem ret_nb {a b : Int} {p q : Bool} (h : a = b) (k : p = q) : Ending.returned (.tuple #[.int .i64 a, .bool p]) = .returned (.tuple #[.int .i64 b, .bool q]) := by rw [h, k]
theorem index_6 (s : ByteArray) (h : 6 < s.size) (w : World) : (Instr.index 9 (.string s) (.int .i64 6)).run Tryz.prog w = .ok (.int .u8 (s[6].toNat : Int)) w := by
  rw [run_index_string w 9 s .i64 6 Tryz.underlying9, dif_pos ⟨by omega, by omega⟩]
  rfl
end Go.Proofs.YtcpaaenjfljocaaGreat
/- The document's writer: Create. -/
namespace Go.Proofs.YtcpaaenjfljocaaGreat
open Go.RowKit FsPlain CrcPlain OctPlain FramePlain RecPlain WrPlain
set_option linter.unusedVariables false
set_option linter.unusedSimpArgs false
/-- What the document's Create leaves. -/
def RwMade (D P : Nat) (w : World) (B : Nat → Prop) (nm : ByteArray) (size : Int) (R : St × Bu × Int) (e : Ending) (w' : World) : Prop :=
  (R.2.2 = 0 ∧ ∃ x, Does w B (R3 x D P ⟨R.1, R.2.1, newWs nm size⟩) (.tuple #[.pointer (some ⟨x, 0, none⟩), .int .i64 0]) e w') ∨
  (R.2.2 ≠ 0 ∧ Does w B (stars [RDiskA D R.1, RBuA P R.2.1]) (.tuple #[.pointer none, .int .i64 R.2.2]) e w')
theorem frs_2 (D P : Nat) (s : St) (b : Bu) : Frs [RDiskA D s, RBuA P b] := ⟨fr_rdisk _ _, fr_rbu _ _, trivial⟩
theorem headS_le (size : Int) : (headS size).size ≤ 1000000000 := by rw [headS_size]; decide
set_option maxRecDepth 20000 in
set_option maxHeartbeats 4000000 in
theorem rw_create (D P : Nat) (s : St) (b : Bu) (nm : ByteArray) (size : Int) (hsz : I64 size) (hn : nm.size ≤ 24) (hm : rightB nm.data.toList = true) (hc : s.calls ≤ 100000000000) (w : World) (B : Nat → Prop) (h : stars [RDiskA D s, RBuA P b] w B) :
    Calls Tryz.prog 13 #[.pointer (some ⟨D, 0, none⟩), .pointer (some ⟨P, 0, none⟩), .string nm, .int .i64 size] w (RwMade D P w B nm size (createM s b nm size)) := by
  obtain ⟨R, hR⟩ : ∃ R, R = createM s b nm size := ⟨_, rfl⟩
  rw [← hR]
  have CH := Lib.hid (rputhead_c size hsz)
  have HR := Lib.hid hR
  have H := Lib.hid h
  clear h hR
  cases hz : sizeB size
  · have hR := HR.out
    unfold createM at hR
    rw [if_pos hz] at hR
    have CH2 := CH.out
    rw [hz, headR_no hz] at CH2
    have CH3 := Lib.hid CH2
    subst hR
    clear hz CH2 CH
    go_enter Tryz.func13, Tryz.ntmps13
    go_wp2_with fail
    refine (CH3.out _).mono ?_; rintro e w1 ⟨rfl, g1⟩
    have HG := Lib.hid g1
    clear g1
    go_wp2_with fail
    go_ret2
    exact .inr ⟨by simp, rfl, B, stars_gr (frs_2 _ _ _ _) H.out HG.out, Nx.gr HG.out⟩
  · have CH2 := CH.out
    rw [hz, headR_yes hz] at CH2
    have CH3 := Lib.hid CH2
    have HZ := Lib.hid hz
    clear hz CH2 CH
    obtain ⟨c1, hc1⟩ : ∃ c1, c1 = b.takeE 4 := ⟨_, rfl⟩
    have HC1 := Lib.hid hc1
    have CT : ∀ w1, Gr w w1 → Calls Tryz.prog 40 #[.pointer (some ⟨P, 0, none⟩), .int .i64 4] w1 (Does w1 B (stars [RDiskA D s, RBuA P (b.take 4)]) (.int .i64 c1)) := by
      intro w1 g1
      have := does_at (f := 40) 1 rfl (frs_2 _ _ _ _) (stars_gr (frs_2 _ _ _ _) H.out g1) fun B2 h2 => rbu_take P b 4 w1 B2 h2
      rw [← hc1] at this
      exact this
    have CTH := Lib.hid CT
    clear CT hc1
    by_cases h1 : c1 = 0
    · subst h1
      obtain ⟨⟨s1, e1⟩, hS1⟩ : ∃ X, X = createR s nm.data.toList := ⟨_, rfl⟩
      have hc2 : s1.calls = s.calls + 1 := by have := create_calls s nm.data.toList; rw [← hS1] at this; exact this
      have HS1 := Lib.hid hS1
      have CC : ∀ w2 B2, stars [RDiskA D s, RBuA P (b.take 4)] w2 B2 → Calls Tryz.prog 41 #[.pointer (some ⟨D, 0, none⟩), .string nm] w2 (Does w2 B2 (stars [RDiskA D s1, RBuA P (b.take 4)]) (.int .i64 e1)) := by
        intro w2 B2 h2
        have := does_at (f := 41) 0 rfl (frs_2 _ _ _ _) h2 fun B3 h3 => r_create D s nm hn hm (by omega) w2 B3 h3
        rw [← hS1] at this
        exact this
      have CCH := Lib.hid CC
      have CG := Lib.hid (fun (s2 : St) w2 B2 (h2 : stars [RDiskA D s2, RBuA P (b.take 4)] w2 B2) => does_at (f := 43) (Q := RBuA P ((b.take 4).give 4)) 1 rfl (frs_2 _ _ _ _) h2 fun B3 h3 => rbu_give P (b.take 4) 4 w2 B3 h3 (by decide))
      clear CC hS1
      by_cases h2 : e1 = 0
      · subst h2
        obtain ⟨⟨s2, e2⟩, hS2⟩ : ∃ X, X = appendR s1 nm.data.toList (headS size).data.toList := ⟨_, rfl⟩
        have HS2 := Lib.hid hS2
        have CA : ∀ w2 B2, stars [RDiskA D s1, RBuA P (b.take 4)] w2 B2 → Calls Tryz.prog 42 #[.pointer (some ⟨D, 0, none⟩), .string nm, .string (headS size)] w2 (Does w2 B2 (stars [RDiskA D s2, RBuA P (b.take 4)]) (.int .i64 e2)) := by
          intro w2 B2 h2
          have := does_at (f := 42) 0 rfl (frs_2 _ _ _ _) h2 fun B3 h3 => r_append D s1 nm (headS size) hn hm (by omega) (headS_le size) w2 B3 h3
          rw [← hS2] at this
          exact this
        have CAH := Lib.hid CA
        clear CA hS2
        have hR := HR.out
        unfold createM at hR
        rw [if_neg (by rw [HZ.out]; decide), ← HC1.out, if_neg (by simp), ← HS1.out, if_neg (by simp)] at hR
        simp only [] at hR
        rw [← HS2.out] at hR
        by_cases h3 : e2 = 0
        · subst h3
          rw [if_neg (by simp)] at hR
          subst hR
          go_enter Tryz.func13, Tryz.ntmps13
          go_wp2_with fail
          refine (CH3.out _).mono ?_; rintro e w1 ⟨rfl, g1⟩
          have CT1 := Lib.hid (CTH.out _ g1)
          have N1 := Lib.hid (Nx.gr (B := B) g1)
          clear g1
          go_wp2_with fail
          refine CT1.out.mono ?_; rintro e w2 hd
          obtain ⟨rfl, B2, h2, n2⟩ := hd
          have CC1 := Lib.hid (CCH.out _ _ h2)
          have N2 := Lib.hid (N1.out.trans n2)
          clear h2 n2 CT1
          go_wp2_with fail
          refine CC1.out.mono ?_; rintro e w3 hd
          obtain ⟨rfl, B3, h3, n3⟩ := hd
          have CA1 := Lib.hid (CAH.out _ _ h3)
          have N3 := Lib.hid (N2.out.trans n3)
          clear h3 n3 CC1
          go_wp2_with fail
          refine CA1.out.mono ?_; rintro e w4 hd
          obtain ⟨rfl, B4, h4, n4⟩ := hd
          have N4 := Lib.hid (N3.out.trans n4)
          have H4 := Lib.hid h4
          clear h4 n4 CA1
          go_wp2_with fail
          go_ret2
          have ga : Gr w4 (w4.alloc (.cells (rwcells D P (newWs nm size) (.slice none 0 0) (.slice none 0 0)) 78)) := (Gr.refl w4).alloc (Nat.le_refl _) _
          obtain ⟨B5, h5, n5⟩ := part_new (P := Blk w4.heap.size (rwcells D P (newWs nm size) (.slice none 0 0) (.slice none 0 0)) 78) (L := [RDiskA D s2, RBuA P (b.take 4)]) (B' := fun b => b = w4.heap.size) (frs_2 _ _ _ _) H4.out ga ⟨heap_alloc_new w4 _, fun _ => Iff.rfl⟩ (fun b hb => by omega)
          obtain ⟨B6, h6, n6⟩ := part_new (w' := w4.alloc (.cells (rwcells D P (newWs nm size) (.slice none 0 0) (.slice none 0 0)) 78)) (P := RowA (.slice none 0 0) []) (L := [Blk w4.heap.size (rwcells D P (newWs nm size) (.slice none 0 0) (.slice none 0 0)) 78, RDiskA D s2, RBuA P (b.take 4)]) ⟨fr_blk _ _ _, frs_2 _ _ _ _⟩ h5 (Gr.refl _) (row_nil _) (fun b hb => hb.elim)
          obtain ⟨B7, h7, n7⟩ := part_new (w' := w4.alloc (.cells (rwcells D P (newWs nm size) (.slice none 0 0) (.slice none 0 0)) 78)) (P := RowA (.slice none 0 0) []) (L := [RowA (.slice none 0 0) [], Blk w4.heap.size (rwcells D P (newWs nm size) (.slice none 0 0) (.slice none 0 0)) 78, RDiskA D s2, RBuA P (b.take 4)]) ⟨fr_row _ _, fr_blk _ _ _, frs_2 _ _ _ _⟩ h6 (Gr.refl _) (row_nil _) (fun b hb => hb.elim)
          have h8 : stars (r5 w4.heap.size D P s2 (b.take 4) (newWs nm size) (.slice none 0 0) (.slice none 0 0)) _ B7 := stars_perm (by
            refine List.Perm.trans ?_ (List.Perm.swap _ _ _)
            exact (List.Perm.swap _ _ _).cons _ ) h7
          exact .inl ⟨rfl, w4.heap.size, rfl, B7, r3_close (m := ⟨s2, b.take 4, newWs nm size⟩) h8, ((N4.out.trans n5).trans n6).trans n7⟩
        · have t1 : (e2 == 0) = false := by simpa using h3
          have t2 : (e2 != 0) = true := by simpa using h3
          have HE := Lib.hid h3
          rw [if_pos h3] at hR
          subst hR
          clear h3
          go_enter Tryz.func13, Tryz.ntmps13
          go_wp2_with fail
          refine (CH3.out _).mono ?_; rintro e w1 ⟨rfl, g1⟩
          have CT1 := Lib.hid (CTH.out _ g1)
          have N1 := Lib.hid (Nx.gr (B := B) g1)
          clear g1
          go_wp2_with fail
          refine CT1.out.mono ?_; rintro e w2 hd
          obtain ⟨rfl, B2, h2, n2⟩ := hd
          have CC1 := Lib.hid (CCH.out _ _ h2)
          have N2 := Lib.hid (N1.out.trans n2)
          clear h2 n2 CT1
          go_wp2_with fail
          refine CC1.out.mono ?_; rintro e w3 hd
          obtain ⟨rfl, B3, h3, n3⟩ := hd
          have CA1 := Lib.hid (CAH.out _ _ h3)
          have N3 := Lib.hid (N2.out.trans n3)
          clear h3 n3 CC1
          go_wp2_with fail
          refine CA1.out.mono ?_; rintro e w4 hd
          obtain ⟨rfl, B4, h4, n4⟩ := hd
          have CG1 := Lib.hid (CG.out _ _ _ h4)
          have N4 := Lib.hid (N3.out.trans n4)
          clear h4 n4 CA1
          go_wp2_with fail
          refine CG1.out.mono ?_; rintro e w5 hd
          obtain ⟨rfl, B5, h5, n5⟩ := hd
          have H5 := Lib.hid h5
          have N5 := Lib.hid (N4.out.trans n5)
          clear h5 n5 CG1
          go_wp2_with fail
          go_ret2
          exact .inr ⟨HE.out, rfl, B5, H5.out, N5.out⟩
      · have t1 : (e1 == 0) = false := by simpa using h2
        have t2 : (e1 != 0) = true := by simpa using h2
        have HE := Lib.hid h2
        have hR := HR.out
        unfold createM at hR
        rw [if_neg (by rw [HZ.out]; decide), ← HC1.out, if_neg (by simp), ← HS1.out, if_pos (by simpa using h2)] at hR
        subst hR
        clear h2
        go_enter Tryz.func13, Tryz.ntmps13
        go_wp2_with fail
        refine (CH3.out _).mono ?_; rintro e w1 ⟨rfl, g1⟩
        have CT1 := Lib.hid (CTH.out _ g1)
        have N1 := Lib.hid (Nx.gr (B := B) g1)
        clear g1
        go_wp2_with fail
        refine CT1.out.mono ?_; rintro e w2 hd
        obtain ⟨rfl, B2, h2, n2⟩ := hd
        have CC1 := Lib.hid (CCH.out _ _ h2)
        have N2 := Lib.hid (N1.out.trans n2)
        clear h2 n2 CT1
        go_wp2_with fail
        refine CC1.out.mono ?_; rintro e w3 hd
        obtain ⟨rfl, B3, h3, n3⟩ := hd
        have CG1 := Lib.hid (CG.out _ _ _ h3)
        have N3 := Lib.hid (N2.out.trans n3)
        clear h3 n3 CC1
        go_wp2_with fail
        refine CG1.out.mono ?_; rintro e w5 hd
        obtain ⟨rfl, B5, h5, n5⟩ := hd
        have H5 := Lib.hid h5
        have N5 := Lib.hid (N3.out.trans n5)
        clear h5 n5 CG1
        go_wp2_with fail
        go_ret2
        exact .inr ⟨HE.out, rfl, B5, H5.out, N5.out⟩
    · have t1 : (c1 == 0) = false := by simpa using h1
      have t2 : (c1 != 0) = true := by simpa using h1
      have HE := Lib.hid h1
      have hR := HR.out
      unfold createM at hR
      rw [if_neg (by rw [HZ.out]; decide), ← HC1.out, if_pos h1] at hR
      subst hR
      clear h1
      go_enter Tryz.func13, Tryz.ntmps13
      go_wp2_with fail
      refine (CH3.out _).mono ?_; rintro e w1 ⟨rfl, g1⟩
      have CT1 := Lib.hid (CTH.out _ g1)
      have N1 := Lib.hid (Nx.gr (B := B) g1)
      clear g1
      go_wp2_with fail
      refine CT1.out.mono ?_; rintro e w2 hd
      obtain ⟨rfl, B2, h2, n2⟩ := hd
      have H2 := Lib.hid h2
      have N2 := Lib.hid (N1.out.trans n2)
      clear h2 n2 CT1
      go_wp2_with fail
      go_ret2
      exact .inr ⟨HE.out, rfl, B2, H2.out, N2.out⟩
end Go.Proofs.YtcpaaenjfljocaaGreat
