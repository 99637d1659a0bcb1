/- In one text: Rwr4. -/
import Derived.Test.YtcpaaenjfljocaaGreatP16
import Derived.Test.YtcpaaenjfljocaaGreatP10
import Derived.Test.YtcpaaenjfljocaaGreatP11
import Derived.Test.YtcpaaenjfljocaaGreatP09
/- The document's writer: Close. -/
namespace Go.Proofs.YtcpaaenjfljocaaGreat
open Go.RowKit FsPlain CrcPlain OctPlain FramePlain RecPlain WrPlain
set_option linter.unusedVariables false
set_option linter.unusedSimpArgs false
theorem rwr_parts {x D P : Nat} {y : Ws} {w : World} {B : Nat → Prop} (h : RWrA x D P y w B) : ∃ vw va, w.heap[x]? = some (.cells (rwcells D P y vw va) 78 (0, 0)) ∧ (∃ B', RowA vw y.wait w B') ∧ ∃ B', RowA va y.all w B' := by
  obtain ⟨vw, va, h⟩ := h
  obtain ⟨_, h0, _⟩ := part_at 0 rfl h
  obtain ⟨B1, h1, _⟩ := part_at 1 rfl h
  obtain ⟨B2, h2, _⟩ := part_at 2 rfl h
  exact ⟨vw, va, h0.1, ⟨B1, h1⟩, B2, h2⟩
def infoC (n s : Int) : Array Value := #[.int .i64 n, .int .u32 s]
/-- The three, beside a result and a variable. -/
def z5 (x D P q0 q1 : Nat) (n0 s0 n1 s1 : Int) (m : M3) : List Asn := [Blk q1 (infoC n1 s1) 50, Blk q0 (infoC n0 s0) 50, RWrA x D P m.x, RDiskA D m.s, RBuA P m.b]
theorem Nx.less {B B' B2 : Nat → Prop} {w w' : World} (h : Nx B w B' w') (k : ∀ b, B2 b → B' b) : Nx B w B2 w' := ⟨h.only, fun b hb => h.new b (k b hb)⟩
theorem z5_r3 {x D P q0 q1 : Nat} {n0 s0 n1 s1 : Int} {m : M3} {w w' : World} {B B' : Nat → Prop} (h : stars (z5 x D P q0 q1 n0 s0 n1 s1 m) w' B') (n : Nx B w B' w') : ∃ B', R3 x D P m w' B' ∧ Nx B w B' w' := by
  obtain ⟨B1, B2, _, r, _, e⟩ := stars_app (L := [Blk q1 (infoC n1 s1) 50, Blk q0 (infoC n0 s0) 50]).1 h
  exact ⟨B2, r, n.less fun b hb => (e b).2 (.inr hb)⟩
theorem rw_close_shut (x D P : Nat) (m : M3) (ho : m.x.opn = false) (w : World) (B : Nat → Prop) (h : R3 x D P m w B) :
    Calls Tryz.prog 23 #[.pointer (some ⟨x, 0, none⟩)] w (RW3 x D P w B m (.tuple #[.agg #[.int .i64 0, .int .u32 0], .int .i64 14])) := by
  obtain ⟨_, hp, _⟩ := part_at 0 rfl h
  obtain ⟨vw, va, hb, _⟩ := rwr_parts hp
  have c6 : w.cell? ⟨x, 6, none⟩ = some (.bool false) := by rw [cells_at hb, ← ho]; rfl
  have H := Lib.hid h
  have hxl := lt_of_block hb
  clear h hp hb ho
  go_enter Tryz.func23, Tryz.ntmps23
  go_wp2_with fail
  have g : Gr w (w.alloc (.cells #[.int .i64 0, .int .u32 0] 50)) := (Gr.refl w).alloc (Nat.le_refl _) _
  refine bodyPost_ret (v := .tuple #[.agg #[.int .i64 0, .int .u32 0], .int .i64 14]) ?_ rfl ⟨rfl, B, star_gr (fr_r3 _ _ _ _) H.out g, Nx.gr g⟩
  rw [results_cell_tmp Tryz.results23]
  simp [go_sem]
theorem frs_z5 (x D P q0 q1 : Nat) (n0 s0 n1 s1 : Int) (m : M3) : Frs (z5 x D P q0 q1 n0 s0 n1 s1 m) := ⟨fr_blk _ _ _, fr_blk _ _ _, fr_rwr _ _ _ _, fr_rdisk _ _, fr_rbu _ _, trivial⟩
theorem info_ret {fn : Func} {p q : Tmp} (hr : fn.results = #[.cell p 50, .tmp q]) {tmps : Array Value} {B : Nat} {W : World} {x y : Int} {v : Value} (hp : tmps.getD p undef = .pointer (some ⟨B, 0, none⟩)) (hq : tmps.getD q undef = v)
    (c0 : W.cell? ⟨B, 0, none⟩ = some (.int .i64 x)) (c1 : W.cell? ⟨B, 1, none⟩ = some (.int .u32 y)) : (results fn tmps).run Tryz.prog W = .ok (.tuple #[.agg #[.int .i64 x, .int .u32 y], v]) W := by
  rw [results_cell_tmp hr, hp, hq]
  simp [go_sem, c0, c1]
/-- The result is stored. -/
theorem z5_ret {x D P q0 q1 : Nat} {n0 s0 n1 s1 n' s' : Int} {m : M3} {w w' : World} {B B' : Nat → Prop} (h : stars (z5 x D P q0 q1 n0 s0 n1 s1 m) w' B') (n : Nx B w B' w') :
    ∃ B2, R3 x D P m ((w'.setCell ⟨q0, 0, none⟩ (.int .i64 n')).setCell ⟨q0, 1, none⟩ (.int .u32 s')) B2 ∧ Nx B w B2 ((w'.setCell ⟨q0, 0, none⟩ (.int .i64 n')).setCell ⟨q0, 1, none⟩ (.int .u32 s')) ∧
      ((w'.setCell ⟨q0, 0, none⟩ (.int .i64 n')).setCell ⟨q0, 1, none⟩ (.int .u32 s')).cell? ⟨q0, 0, none⟩ = some (.int .i64 n') ∧ ((w'.setCell ⟨q0, 0, none⟩ (.int .i64 n')).setCell ⟨q0, 1, none⟩ (.int .u32 s')).cell? ⟨q0, 1, none⟩ = some (.int .u32 s') := by
  obtain ⟨B1, h1, k1⟩ := step_at (w' := w'.setCell ⟨q0, 0, none⟩ (.int .i64 n')) (Q := Blk q0 (infoC n' s0) 50) 1 rfl (frs_z5 _ _ _ _ _ _ _ _ _ _) h fun B1 h1 => blk_next h1 (.int .i64 n')
  obtain ⟨B2, h2, k2⟩ := step_at (w' := (w'.setCell ⟨q0, 0, none⟩ (.int .i64 n')).setCell ⟨q0, 1, none⟩ (.int .u32 s')) (Q := Blk q0 (infoC n' s') 50) 1 rfl (frs_z5 x D P q0 q1 n' s0 n1 s1 m) h1 fun B1 h1 => blk_next h1 (.int .u32 s')
  obtain ⟨_, hb, _⟩ := part_at 1 rfl h2
  obtain ⟨B3, h3, n3⟩ := z5_r3 (x := x) (q0 := q0) (q1 := q1) (n0 := n') (s0 := s') (n1 := n1) (s1 := s1) (m := m) h2 ((n.trans k1).trans k2)
  exact ⟨B3, h3, n3, by rw [cells_at hb.1]; rfl, by rw [cells_at hb.1]; rfl⟩
theorem layM_x (m : M3) (t : ByteArray) : (layM m t).1.x.all = m.x.all ∧ (layM m t).1.x.nm = m.x.nm ∧ (layM m t).1.x.size = m.x.size := by
  unfold layM dropM
  split
  · exact ⟨rfl, rfl, rfl⟩
  · split <;> exact ⟨rfl, rfl, rfl⟩
theorem peS_le (c : Int) (m : Nat) : (peS c m).size ≤ 300 := by
  cases h : peB c
  · rw [peS_no h]; decide
  · rw [peS_yes h, cl_size, endS_size]; decide
set_option maxRecDepth 20000 in
set_option maxHeartbeats 8000000 in
theorem rw_close_none (x D P : Nat) (m : M3) (hm : m.ok) (hal : m.x.all.length ≤ 100000) (hc : m.s.calls ≤ 100000000000) (ho : m.x.opn = true) (hw : m.x.wait.length = 0) (w : World) (B : Nat → Prop) (h : R3 x D P m w B) :
    Calls Tryz.prog 23 #[.pointer (some ⟨x, 0, none⟩)] w (RW3 x D P w B (closeM m).1 (closeV m (closeM m).2)) := by
  obtain ⟨M, hM⟩ : ∃ M, M = closeM m := ⟨_, rfl⟩
  rw [← hM]
  obtain ⟨M1, hM1⟩ : ∃ M1, M1 = m := ⟨_, rfl⟩
  obtain ⟨k, hk⟩ : ∃ k : Int, k = (m.x.all.length : Int) := ⟨_, rfl⟩
  obtain ⟨s, hs⟩ : ∃ s : Int, s = (sumN m.x.all : Int) := ⟨_, rfl⟩
  obtain ⟨T, hT⟩ : ∃ T, T = peS m.x.all.length (sumN m.x.all) := ⟨_, rfl⟩
  have hf : flushM m = (m, 0) := by unfold flushM; rw [if_pos hw]
  have hend : endM M1 = layM M1 T := by unfold endM; rw [hM1, hT]
  have HMM := Lib.hid (show (layM M1 T).2 = 0 → M = (dropM (syncM (layM M1 T).1).1, (syncM (layM M1 T).1).2) by
    intro h1; rw [hM]; unfold closeM; rw [hf, if_neg (by rw [ho]; decide), if_neg (by simp), ← hM1, hend, if_neg (by simpa using h1)])
  have HME := Lib.hid (show ¬ (layM M1 T).2 = 0 → M = (dropM (layM M1 T).1, (layM M1 T).2) by
    intro h1; rw [hM]; unfold closeM; rw [hf, if_neg (by rw [ho]; decide), if_neg (by simp), ← hM1, hend, if_pos h1])
  obtain ⟨V, hV⟩ : ∃ V, V = closeV m M.2 := ⟨_, rfl⟩
  rw [← hV]
  have hV2 : V = .tuple #[.agg #[.int .i64 (if M.2 = 0 then k else 0), .int .u32 (if M.2 = 0 then s else 0)], .int .i64 M.2] := by rw [hV, hk, hs]; rfl
  have HV := Lib.hid hV2
  clear hV hV2
  have OK1 := Lib.hid (show M1.ok by rw [hM1]; exact hm)
  have HC1 := Lib.hid (show M1.s.calls ≤ 1000000000000 - 1 by rw [hM1]; omega)
  have HT := Lib.hid (show T.size ≤ 1000000000 by rw [hT]; have := peS_le m.x.all.length (sumN m.x.all); omega)
  have CE := rfputend_c k (by unfold I64; omega) (sumN m.x.all) (sumN_lt _)
  rw [hk, ← hT, ← hs, ← hk] at CE
  have CEH := Lib.hid CE
  obtain ⟨_, hp, _⟩ := part_at 0 rfl h
  obtain ⟨vw, va, hb, _, _, hra⟩ := rwr_parts hp
  obtain ⟨aa, ca, rfl, _⟩ := rowE_shape hra
  have g0 : Gr w (w.alloc (.cells #[.int .i64 0, .int .u32 0] 50)) := (Gr.refl w).alloc (Nat.le_refl _) _
  obtain ⟨B0, h0, n0⟩ := part_new (P := Blk w.heap.size (infoC 0 0) 50) (L := [RWrA x D P m.x, RDiskA D m.s, RBuA P m.b]) (B' := fun b => b = w.heap.size) ⟨fr_rwr _ _ _ _, fr_rdisk _ _, fr_rbu _ _, trivial⟩ h g0 ⟨heap_alloc_new w _, fun _ => Iff.rfl⟩ (fun b hb => by omega)
  have c6 : w.cell? ⟨x, 6, none⟩ = some (.bool true) := by rw [cells_at hb, ← ho]; rfl
  have c5 : w.cell? ⟨x, 5, none⟩ = some (.slice aa m.x.all.length ca) := by rw [cells_at hb]; rfl
  have hxl := lt_of_block hb
  have CS : Calls Tryz.prog 31 #[.slice aa m.x.all.length ca] (w.alloc (.cells #[.int .i64 0, .int .u32 0] 50)) fun e w' => e = .returned (.agg #[.int .i64 k, .int .u32 s]) ∧ Gr (w.alloc (.cells #[.int .i64 0, .int .u32 0] 50)) w' := by
    rw [hk, hs]
    exact rsum_c ((row_lies hra).gr g0) (by omega) (fun s hs => by have := hm.az s hs; have := hm.z; simp [sizeB] at this; omega)
  have CSH := Lib.hid CS
  have H0 := Lib.hid h0
  have N0 := Lib.hid n0
  have HHW := Lib.hid hw
  have hM1' := Lib.hid hM1
  clear h h0 n0 hp hb hra hm ho g0 hM hM1 hk hs hT hf hend CS hw CE
  go_enter Tryz.func23, Tryz.ntmps23
  go_wp2_with fail
  refine CSH.out.mono ?_; rintro e w1 ⟨rfl, g1⟩
  have h1 := stars_gr (L := [Blk w.heap.size (infoC 0 0) 50, RWrA x D P m.x, RDiskA D m.s, RBuA P m.b]) ⟨fr_blk _ _ _, fr_rwr _ _ _ _, fr_rdisk _ _, fr_rbu _ _, trivial⟩ H0.out g1
  obtain ⟨_, hp1, _⟩ := part_at 1 rfl h1
  obtain ⟨vw1, va1, hb1, ⟨_, hrw1⟩, _⟩ := rwr_parts hp1
  obtain ⟨aw, cw, rfl, _⟩ := rowE_shape hrw1
  obtain ⟨nw, hnw⟩ : ∃ nw, m.x.wait.length = nw := ⟨_, rfl⟩
  have c4 : w1.cell? ⟨x, 4, none⟩ = some (.slice aw nw cw) := by rw [cells_at hb1, ← hnw]; rfl
  have c3 : w1.cell? ⟨x, 3, none⟩ = some (.int .i64 m.x.size) := by rw [cells_at hb1]; rfl
  have hxl1 := lt_of_block hb1
  obtain ⟨B7, h7, n7⟩ := part_new (P := Blk w1.heap.size (infoC k s) 50) (L := [Blk w.heap.size (infoC 0 0) 50, RWrA x D P m.x, RDiskA D m.s, RBuA P m.b]) (B' := fun b => b = w1.heap.size) ⟨fr_blk _ _ _, fr_rwr _ _ _ _, fr_rdisk _ _, fr_rbu _ _, trivial⟩ h1 ((Gr.refl w1).alloc (Nat.le_refl _) (.cells #[.int .i64 k, .int .u32 s] 50)) ⟨heap_alloc_new w1 _, fun _ => Iff.rfl⟩ (fun b hb => by omega)
  have HM1' := hM1'.out
  subst HM1'
  have H7 := Lib.hid h7
  have N7 := Lib.hid ((N0.out.trans (Nx.gr g1)).trans n7)
  have hnw0 : nw = 0 := by have := HHW.out; omega
  subst hnw0
  clear h1 hp1 hb1 hrw1 h7 n7 g1 CSH hnw c6 c5
  go_wp2_with fail
  refine (CEH.out _).mono ?_; rintro e w5 ⟨rfl, g5⟩
  have h5 := stars_gr (frs_z5 _ _ _ _ _ _ _ _ _ _) H7.out g5
  have N5 := Lib.hid (N7.out.trans (Nx.gr g5))
  obtain ⟨⟨M2, e2⟩, hR⟩ : ∃ R, R = layM M1 T := ⟨_, rfl⟩
  have hok2 : M2.ok := by have := ok_layM OK1.out T; rw [← hR] at this; exact this
  have hc2 : M2.s.calls ≤ 1000000000000 := by have := layM_calls M1 T; rw [← hR] at this; have h := HC1.out; have : M2.s.calls = M1.s.calls + 1 := this; omega
  have CL : Calls Tryz.prog 49 #[.pointer (some ⟨x, 0, none⟩), .string T] w5 (Does w5 B7 (stars (z5 x D P w.heap.size w1.heap.size 0 0 k s M2)) (.int .i64 e2)) := by
    have := does_suf (f := 49) [Blk w1.heap.size (infoC k s) 50, Blk w.heap.size (infoC 0 0) 50] (M := [RWrA x D P M1.x, RDiskA D M1.s, RBuA P M1.b]) (M' := [RWrA x D P (layM M1 T).1.x, RDiskA D (layM M1 T).1.s, RBuA P (layM M1 T).1.b]) ⟨fr_blk _ _ _, fr_blk _ _ _, trivial⟩ h5 fun B1 p1 => rw_lay x D P M1 T OK1.out (by have := HC1.out; omega) HT.out w5 B1 p1
    rw [← hR] at this
    exact this
  have CLH := Lib.hid CL
  have HR := Lib.hid hR
  have HOK2 := Lib.hid hok2
  have HC2 := Lib.hid hc2
  clear h5 CL hR hok2 g5 hc2
  go_wp2_with fail
  refine CLH.out.mono ?_; rintro e w6 hd
  obtain ⟨rfl, B6, h6, n6⟩ := hd
  have H6 := Lib.hid h6
  have N6 := Lib.hid (N5.out.trans n6)
  clear h6 n6 CLH
  by_cases h0 : e2 = 0
  · have HX := Lib.hid (show (layM M1 T).2 = 0 by rw [← HR.out]; exact h0)
    subst h0
    obtain ⟨_, hp, _⟩ := part_at 2 rfl H6.out
    obtain ⟨vw6, va6, hb6, _, _⟩ := rwr_parts hp
    have c0 : w6.cell? ⟨x, 0, none⟩ = some (.pointer (some ⟨D, 0, none⟩)) := by rw [cells_at hb6]; rfl
    have c2 : w6.cell? ⟨x, 2, none⟩ = some (.string M2.x.nm) := by rw [cells_at hb6]; rfl
    have h6d := stars_gr (frs_z5 _ _ _ _ _ _ _ _ _ _) H6.out (Gr.refl w6).drew
    obtain ⟨⟨s3, e3⟩, hS⟩ : ∃ R, R = syncR M2.s M2.x.nm.data.toList := ⟨_, rfl⟩
    have CS : Calls Tryz.prog 52 #[.pointer (some ⟨D, 0, none⟩), .string M2.x.nm] w6.drew (Does w6.drew B6 (stars (z5 x D P w.heap.size w1.heap.size 0 0 k s ⟨s3, M2.b, M2.x⟩)) (.int .i64 e3)) := by
      have := does_at (f := 52) 3 rfl (frs_z5 _ _ _ _ _ _ _ _ _ _) h6d fun B2 p2 => r_sync D M2.s M2.x.nm HOK2.out.n1 HOK2.out.n2 HC2.out w6.drew B2 p2
      rw [← hS] at this
      exact this
    have CSH := Lib.hid CS
    have HS := Lib.hid hS
    clear hp hb6 h6d CS hS
    go_wp2_with fail
    go_still_tail 8, (by kernel_rfl)
    change wpList _ _ _ _ _ w6.drew
    go_wp2_with fail
    refine CSH.out.mono ?_; rintro e w7 hd
    obtain ⟨rfl, B8, h8, n8⟩ := hd
    have CD : Calls Tryz.prog 21 #[.pointer (some ⟨x, 0, none⟩)] w7 (Does w7 B8 (stars (z5 x D P w.heap.size w1.heap.size 0 0 k s (dropM ⟨s3, M2.b, M2.x⟩))) (.tuple #[])) :=
      does_suf (f := 21) [Blk w1.heap.size (infoC k s) 50, Blk w.heap.size (infoC 0 0) 50] (M := [RWrA x D P M2.x, RDiskA D s3, RBuA P M2.b]) (M' := [RWrA x D P (dropM ⟨s3, M2.b, M2.x⟩).x, RDiskA D (dropM ⟨s3, M2.b, M2.x⟩).s, RBuA P (dropM ⟨s3, M2.b, M2.x⟩).b]) ⟨fr_blk _ _ _, fr_blk _ _ _, trivial⟩ h8 fun B1 p1 => rw_drop x D P ⟨s3, M2.b, M2.x⟩ w7 B1 p1
    have CDH := Lib.hid CD
    have N8 := Lib.hid ((N6.out.trans (Nx.gr (Gr.refl w6).drew)).trans n8)
    clear h8 n8 CD CSH
    go_wp2_with fail
    refine CDH.out.mono ?_; rintro e w9 hd
    obtain ⟨rfl, B9, h9, n9⟩ := hd
    obtain ⟨_, hb9, _⟩ := part_at 0 rfl h9
    obtain ⟨_, ha9, _⟩ := part_at 1 rfl h9
    have d0 : w9.cell? ⟨w1.heap.size, 0, none⟩ = some (.int .i64 k) := by rw [cells_at hb9.1]; rfl
    have d1 : w9.cell? ⟨w1.heap.size, 1, none⟩ = some (.int .u32 s) := by rw [cells_at hb9.1]; rfl
    have a0 : w9.cell? ⟨w.heap.size, 0, none⟩ = some (.int .i64 0) := by rw [cells_at ha9.1]; rfl
    have a1 : w9.cell? ⟨w.heap.size, 1, none⟩ = some (.int .u32 0) := by rw [cells_at ha9.1]; rfl
    have f0 := cells_free ha9.1 0
    have f1 := cells_free ha9.1 1
    have H9 := Lib.hid h9
    have N9 := Lib.hid (N8.out.trans n9)
    clear h9 n9 hb9 ha9 CDH
    by_cases h3 : e3 = 0
    · subst h3
      have HM := Lib.hid (show M = (dropM ⟨s3, M2.b, M2.x⟩, 0) by
        rw [HMM.out HX.out, ← HR.out]
        show (dropM ⟨(syncR M2.s M2.x.nm.data.toList).1, M2.b, M2.x⟩, (syncR M2.s M2.x.nm.data.toList).2) = _
        rw [← HS.out])
      obtain rfl := HM.out
      go_wp2_with fail
      have fin := z5_ret (n' := k) (s' := s) H9.out N9.out
      obtain ⟨B10, h10, n10, r0, r1⟩ := fin
      refine bodyPost_ret (info_ret Tryz.results23 rfl rfl r0 r1) rfl ?_
      exact ⟨by rw [HV.out]; rfl, B10, h10, n10⟩
    · have t1 : (e3 == 0) = false := by simpa using h3
      have t2 : (e3 != 0) = true := by simpa using h3
      have HM := Lib.hid (show M = (dropM ⟨s3, M2.b, M2.x⟩, e3) by
        rw [HMM.out HX.out, ← HR.out]
        show (dropM ⟨(syncR M2.s M2.x.nm.data.toList).1, M2.b, M2.x⟩, (syncR M2.s M2.x.nm.data.toList).2) = _
        rw [← HS.out])
      obtain rfl := HM.out
      clear h3
      go_wp2_with fail
      have fin := z5_ret (n' := 0) (s' := 0) H9.out N9.out
      obtain ⟨B10, h10, n10, r0, r1⟩ := fin
      refine bodyPost_ret (info_ret Tryz.results23 rfl rfl r0 r1) rfl ?_
      exact ⟨by rw [HV.out, if_neg (by simpa using t1), if_neg (by simpa using t1)]; rfl, B10, h10, n10⟩
  · have t1 : (e2 == 0) = false := by simpa using h0
    have t2 : (e2 != 0) = true := by simpa using h0
    have CD : Calls Tryz.prog 21 #[.pointer (some ⟨x, 0, none⟩)] w6 (Does w6 B6 (stars (z5 x D P w.heap.size w1.heap.size 0 0 k s (dropM M2))) (.tuple #[])) :=
      does_suf (f := 21) [Blk w1.heap.size (infoC k s) 50, Blk w.heap.size (infoC 0 0) 50] (M := [RWrA x D P M2.x, RDiskA D M2.s, RBuA P M2.b]) (M' := [RWrA x D P (dropM M2).x, RDiskA D (dropM M2).s, RBuA P (dropM M2).b]) ⟨fr_blk _ _ _, fr_blk _ _ _, trivial⟩ H6.out fun B1 p1 => rw_drop x D P M2 w6 B1 p1
    have CDH := Lib.hid CD
    have HM := Lib.hid (show M = (dropM M2, e2) by rw [HME.out (by rw [← HR.out]; exact h0), ← HR.out])
    clear CD
    clear h0
    go_wp2_with fail
    refine CDH.out.mono ?_; rintro e w9 hd
    obtain ⟨rfl, B9, h9, n9⟩ := hd
    obtain ⟨_, ha9, _⟩ := part_at 1 rfl h9
    have a0 : w9.cell? ⟨w.heap.size, 0, none⟩ = some (.int .i64 0) := by rw [cells_at ha9.1]; rfl
    have a1 : w9.cell? ⟨w.heap.size, 1, none⟩ = some (.int .u32 0) := by rw [cells_at ha9.1]; rfl
    have f0 := cells_free ha9.1 0
    have f1 := cells_free ha9.1 1
    have H9 := Lib.hid h9
    have N9 := Lib.hid (N6.out.trans n9)
    clear h9 n9 ha9 CDH
    obtain rfl := HM.out
    go_wp2_with fail
    have fin := z5_ret (n' := 0) (s' := 0) H9.out N9.out
    obtain ⟨B10, h10, n10, r0, r1⟩ := fin
    refine bodyPost_ret (info_ret Tryz.results23 rfl rfl r0 r1) rfl ?_
    exact ⟨by rw [HV.out, if_neg (by simpa using t1), if_neg (by simpa using t1)]; rfl, B10, h10, n10⟩
set_option maxRecDepth 20000 in
set_option maxHeartbeats 8000000 in
theorem rw_close_some (x D P : Nat) (m : M3) (hm : m.ok) (hal : m.x.all.length ≤ 100000) (hc : m.s.calls ≤ 100000000000) (ho : m.x.opn = true) (hw : ¬ m.x.wait.length = 0) (w : World) (B : Nat → Prop) (h : R3 x D P m w B) :
    Calls Tryz.prog 23 #[.pointer (some ⟨x, 0, none⟩)] w (RW3 x D P w B (closeM m).1 (closeV m (closeM m).2)) := by
  obtain ⟨M, hM⟩ : ∃ M, M = closeM m := ⟨_, rfl⟩
  rw [← hM]
  obtain ⟨k, hk⟩ : ∃ k : Int, k = (m.x.all.length : Int) := ⟨_, rfl⟩
  obtain ⟨s, hs⟩ : ∃ s : Int, s = (sumN m.x.all : Int) := ⟨_, rfl⟩
  obtain ⟨T, hT⟩ : ∃ T, T = peS m.x.all.length (sumN m.x.all) := ⟨_, rfl⟩
  obtain ⟨T2, hT2⟩ : ∃ T2, T2 = blkS m.x.size m.x.wait := ⟨_, rfl⟩
  have hf : flushM m = layM m T2 := by unfold flushM; rw [if_neg hw, hT2]
  obtain ⟨⟨M1, e1⟩, hM1⟩ : ∃ R, R = layM m T2 := ⟨_, rfl⟩
  rw [← hM1] at hf
  have hall : M1.x.all = m.x.all := by have := (layM_x m T2).1; rw [← hM1] at this; exact this
  have hend : endM M1 = layM M1 T := by unfold endM; rw [hall, hT]
  have HMF := Lib.hid (show ¬ e1 = 0 → M = (M1, e1) by
    intro h1; rw [hM]; unfold closeM; rw [hf, if_neg (by rw [ho]; decide), if_pos h1])
  have HMM0 := Lib.hid (show e1 = 0 → (layM M1 T).2 = 0 → M = (dropM (syncM (layM M1 T).1).1, (syncM (layM M1 T).1).2) by
    intro h0 h1; rw [hM]; unfold closeM; rw [hf, if_neg (by rw [ho]; decide), if_neg (by simpa using h0), hend, if_neg (by simpa using h1)])
  have HME0 := Lib.hid (show e1 = 0 → ¬ (layM M1 T).2 = 0 → M = (dropM (layM M1 T).1, (layM M1 T).2) by
    intro h0 h1; rw [hM]; unfold closeM; rw [hf, if_neg (by rw [ho]; decide), if_neg (by simpa using h0), hend, if_pos h1])
  obtain ⟨V, hV⟩ : ∃ V, V = closeV m M.2 := ⟨_, rfl⟩
  rw [← hV]
  have hV2 : V = .tuple #[.agg #[.int .i64 (if M.2 = 0 then k else 0), .int .u32 (if M.2 = 0 then s else 0)], .int .i64 M.2] := by rw [hV, hk, hs]; rfl
  have HV := Lib.hid hV2
  clear hV hV2
  have OK1 := Lib.hid (show M1.ok by have := ok_layM hm T2; rw [← hM1] at this; exact this)
  have HC1 := Lib.hid (show M1.s.calls ≤ 1000000000000 - 1 by have := layM_calls m T2; rw [← hM1] at this; have : M1.s.calls = m.s.calls + 1 := this; omega)
  have HOK := Lib.hid hm
  have HT2 := Lib.hid hT2
  have hsz : 1 ≤ m.x.size ∧ m.x.size ≤ 64 := by have := hm.z; simpa [sizeB] using this
  obtain ⟨hsz1, hsz2⟩ := hsz
  have hwl := hm.wl
  have HT := Lib.hid (show T.size ≤ 1000000000 by rw [hT]; have := peS_le m.x.all.length (sumN m.x.all); omega)
  have CE := rfputend_c k (by unfold I64; omega) (sumN m.x.all) (sumN_lt _)
  rw [hk, ← hT, ← hs, ← hk] at CE
  have CEH := Lib.hid CE
  obtain ⟨_, hp, _⟩ := part_at 0 rfl h
  obtain ⟨vw, va, hb, _, _, hra⟩ := rwr_parts hp
  obtain ⟨aa, ca, rfl, _⟩ := rowE_shape hra
  have g0 : Gr w (w.alloc (.cells #[.int .i64 0, .int .u32 0] 50)) := (Gr.refl w).alloc (Nat.le_refl _) _
  obtain ⟨B0, h0, n0⟩ := part_new (P := Blk w.heap.size (infoC 0 0) 50) (L := [RWrA x D P m.x, RDiskA D m.s, RBuA P m.b]) (B' := fun b => b = w.heap.size) ⟨fr_rwr _ _ _ _, fr_rdisk _ _, fr_rbu _ _, trivial⟩ h g0 ⟨heap_alloc_new w _, fun _ => Iff.rfl⟩ (fun b hb => by omega)
  have c6 : w.cell? ⟨x, 6, none⟩ = some (.bool true) := by rw [cells_at hb, ← ho]; rfl
  have c5 : w.cell? ⟨x, 5, none⟩ = some (.slice aa m.x.all.length ca) := by rw [cells_at hb]; rfl
  have hxl := lt_of_block hb
  have CS : Calls Tryz.prog 31 #[.slice aa m.x.all.length ca] (w.alloc (.cells #[.int .i64 0, .int .u32 0] 50)) fun e w' => e = .returned (.agg #[.int .i64 k, .int .u32 s]) ∧ Gr (w.alloc (.cells #[.int .i64 0, .int .u32 0] 50)) w' := by
    rw [hk, hs]
    exact rsum_c ((row_lies hra).gr g0) (by omega) (fun s hs => by have := hm.az s hs; have := hm.z; simp [sizeB] at this; omega)
  have CSH := Lib.hid CS
  have H0 := Lib.hid h0
  have N0 := Lib.hid n0
  have HHW := Lib.hid hw
  have hM1' := Lib.hid hM1
  clear h h0 n0 hp hb hra hm ho g0 hM hM1 hk hs hT hT2 hf hend CS hw CE hall
  go_enter Tryz.func23, Tryz.ntmps23
  go_wp2_with fail
  refine CSH.out.mono ?_; rintro e w1 ⟨rfl, g1⟩
  have h1 := stars_gr (L := [Blk w.heap.size (infoC 0 0) 50, RWrA x D P m.x, RDiskA D m.s, RBuA P m.b]) ⟨fr_blk _ _ _, fr_rwr _ _ _ _, fr_rdisk _ _, fr_rbu _ _, trivial⟩ H0.out g1
  obtain ⟨_, hp1, _⟩ := part_at 1 rfl h1
  obtain ⟨vw1, va1, hb1, ⟨_, hrw1⟩, _⟩ := rwr_parts hp1
  have hLW := row_lies hrw1
  obtain ⟨aw, cw, rfl, _⟩ := rowE_shape hrw1
  obtain ⟨nw, hnw⟩ : ∃ nw, m.x.wait.length = nw := ⟨_, rfl⟩
  have c4 : w1.cell? ⟨x, 4, none⟩ = some (.slice aw nw cw) := by rw [cells_at hb1, ← hnw]; rfl
  have c3 : w1.cell? ⟨x, 3, none⟩ = some (.int .i64 m.x.size) := by rw [cells_at hb1]; rfl
  have hxl1 := lt_of_block hb1
  obtain ⟨B7, h7, n7⟩ := part_new (P := Blk w1.heap.size (infoC k s) 50) (L := [Blk w.heap.size (infoC 0 0) 50, RWrA x D P m.x, RDiskA D m.s, RBuA P m.b]) (B' := fun b => b = w1.heap.size) ⟨fr_blk _ _ _, fr_rwr _ _ _ _, fr_rdisk _ _, fr_rbu _ _, trivial⟩ h1 ((Gr.refl w1).alloc (Nat.le_refl _) (.cells #[.int .i64 k, .int .u32 s] 50)) ⟨heap_alloc_new w1 _, fun _ => Iff.rfl⟩ (fun b hb => by omega)
  have hnw1 : 1 ≤ nw := by have := HHW.out; omega
  have hnw4 : nw ≤ 3 := by omega
  have hnwi : 0 < (nw : Int) := by omega
  have HNW := Lib.hid hnw
  clear h1 hp1 hb1 hrw1 CSH hnw c6 c5 hwl
  go_wp2_with fail
  obtain ⟨W2, hW2⟩ : ∃ W2, W2 = w1.alloc (.cells #[.int .i64 k, .int .u32 s] 50) := ⟨_, rfl⟩
  have hg2 : Gr w1 W2 := by rw [hW2]; exact (Gr.refl w1).alloc (Nat.le_refl _) _
  rw [← hW2] at h7 n7 ⊢
  obtain ⟨_, hp2, _⟩ := part_at 2 rfl h7
  obtain ⟨_, _, hb2, _, _⟩ := rwr_parts hp2
  have e3 : W2.cell? ⟨x, 3, none⟩ = some (.int .i64 m.x.size) := by rw [hg2.cell (p := ⟨x, 3, none⟩) hxl1]; exact c3
  have e4 : W2.cell? ⟨x, 4, none⟩ = some (.slice aw nw cw) := by rw [hg2.cell (p := ⟨x, 4, none⟩) hxl1]; exact c4
  have CP0 : ∀ u, Gr W2 u → Calls Tryz.prog 48 #[.int .i64 m.x.size, .slice aw nw cw] u fun e w' => e = .returned (.tuple #[.string (blkS m.x.size m.x.wait), .bool (blkB m.x.size m.x.wait)]) ∧ Gr W2 w' ∧ w'.cell? ⟨x, 3, none⟩ = some (.int .i64 m.x.size) ∧ w'.cell? ⟨x, 4, none⟩ = some (.slice aw nw cw) := by
    intro u g
    have hL : Lies u (.slice aw nw cw) m.x.wait := by
      have := hLW.gr (hg2.trans g)
      rwa [HNW.out] at this
    refine (rfput_c hL m.x.size (by unfold I64; omega) (by rw [HNW.out]; omega)).mono ?_
    rintro e u2 ⟨rfl, g2⟩
    have hg := g.trans g2
    exact ⟨rfl, hg, by rw [hg.cell (p := ⟨x, 3, none⟩) (lt_of_block hb2)]; exact e3, by rw [hg.cell (p := ⟨x, 4, none⟩) (lt_of_block hb2)]; exact e4⟩
  obtain ⟨tb, htb⟩ : ∃ tb, tb = blkB m.x.size m.x.wait := ⟨_, rfl⟩
  rw [← HT2.out, ← htb] at CP0
  have CP := Lib.hid CP0
  have H2 := Lib.hid h7
  have N2 := Lib.hid ((N0.out.trans (Nx.gr g1)).trans n7)
  have gW := Gr.refl W2
  have gWd : Gr W2 W2.drew := Below.drew gW
  clear hW2 hp2 hb2 htb CP0 h7 n7 c3 c4 hg2 hLW g1 hxl
  go_region_held3 (fun w' => w'.cell? ⟨x, 3, none⟩ = some (.int .i64 m.x.size) ∧ w'.cell? ⟨x, 4, none⟩ = some (.slice aw nw cw)) (first | exact ⟨by assumption, by assumption⟩ | go_keep)
    ((go_at_call 48; (with_reducible refine (CP.out _ (by assumption)).mono ?_); rintro e w3 ⟨rfl, hg3, hu3, hu4⟩))
  have h3 := stars_gr (frs_z5 _ _ _ _ _ _ _ _ _ _) H2.out hg3
  have N3 := Lib.hid (N2.out.trans (Nx.gr hg3))
  have CL : Calls Tryz.prog 49 #[.pointer (some ⟨x, 0, none⟩), .string T2] w3 (Does w3 B7 (stars (z5 x D P w.heap.size w1.heap.size 0 0 k s M1)) (.int .i64 e1)) := by
    have := does_suf (f := 49) [Blk w1.heap.size (infoC k s) 50, Blk w.heap.size (infoC 0 0) 50] (M := [RWrA x D P m.x, RDiskA D m.s, RBuA P m.b]) (M' := [RWrA x D P (layM m T2).1.x, RDiskA D (layM m T2).1.s, RBuA P (layM m T2).1.b]) ⟨fr_blk _ _ _, fr_blk _ _ _, trivial⟩ h3 fun B1 p1 => rw_lay x D P m T2 HOK.out (by omega) (by rw [HT2.out]; have := blkS_le HOK.out.z (by rw [HNW.out]; omega) HOK.out.wz; omega) w3 B1 p1
    rw [← hM1'.out] at this
    exact this
  have CLH := Lib.hid CL
  clear h3 hg3 hu3 hu4 CL CP gW gWd e3 e4
  go_wp2_with fail
  refine CLH.out.mono ?_; rintro e w4 hd
  obtain ⟨rfl, B7, h7, n7⟩ := hd
  have H7 := Lib.hid h7
  have N7 := Lib.hid (N3.out.trans n7)
  clear h7 n7 CLH
  by_cases he : e1 = 0
  · have HMM := Lib.hid (HMM0.out he)
    have HME := Lib.hid (HME0.out he)
    subst he
    obtain ⟨_, hb7, _⟩ := part_at 0 rfl H7.out
    have z0 : w4.cell? ⟨w1.heap.size, 0, none⟩ = some (.int .i64 k) := by rw [cells_at hb7.1]; rfl
    have z1 : w4.cell? ⟨w1.heap.size, 1, none⟩ = some (.int .u32 s) := by rw [cells_at hb7.1]; rfl
    clear hb7
    go_wp2_with fail
    refine (CEH.out _).mono ?_; rintro e w5 ⟨rfl, g5⟩
    have h5 := stars_gr (frs_z5 _ _ _ _ _ _ _ _ _ _) H7.out g5
    have N5 := Lib.hid (N7.out.trans (Nx.gr g5))
    obtain ⟨⟨M2, e2⟩, hR⟩ : ∃ R, R = layM M1 T := ⟨_, rfl⟩
    have hok2 : M2.ok := by have := ok_layM OK1.out T; rw [← hR] at this; exact this
    have hc2 : M2.s.calls ≤ 1000000000000 := by have := layM_calls M1 T; rw [← hR] at this; have h := HC1.out; have : M2.s.calls = M1.s.calls + 1 := this; omega
    have CL : Calls Tryz.prog 49 #[.pointer (some ⟨x, 0, none⟩), .string T] w5 (Does w5 B7 (stars (z5 x D P w.heap.size w1.heap.size 0 0 k s M2)) (.int .i64 e2)) := by
      have := does_suf (f := 49) [Blk w1.heap.size (infoC k s) 50, Blk w.heap.size (infoC 0 0) 50] (M := [RWrA x D P M1.x, RDiskA D M1.s, RBuA P M1.b]) (M' := [RWrA x D P (layM M1 T).1.x, RDiskA D (layM M1 T).1.s, RBuA P (layM M1 T).1.b]) ⟨fr_blk _ _ _, fr_blk _ _ _, trivial⟩ h5 fun B1 p1 => rw_lay x D P M1 T OK1.out (by have := HC1.out; omega) HT.out w5 B1 p1
      rw [← hR] at this
      exact this
    have CLH := Lib.hid CL
    have HR := Lib.hid hR
    have HOK2 := Lib.hid hok2
    have HC2 := Lib.hid hc2
    clear h5 CL hR hok2 g5 hc2
    go_wp2_with fail
    refine CLH.out.mono ?_; rintro e w6 hd
    obtain ⟨rfl, B6, h6, n6⟩ := hd
    have H6 := Lib.hid h6
    have N6 := Lib.hid (N5.out.trans n6)
    clear h6 n6 CLH
    by_cases h0 : e2 = 0
    · have HX := Lib.hid (show (layM M1 T).2 = 0 by rw [← HR.out]; exact h0)
      subst h0
      obtain ⟨_, hp, _⟩ := part_at 2 rfl H6.out
      obtain ⟨vw6, va6, hb6, _, _⟩ := rwr_parts hp
      have c0 : w6.cell? ⟨x, 0, none⟩ = some (.pointer (some ⟨D, 0, none⟩)) := by rw [cells_at hb6]; rfl
      have c2 : w6.cell? ⟨x, 2, none⟩ = some (.string M2.x.nm) := by rw [cells_at hb6]; rfl
      have h6d := stars_gr (frs_z5 _ _ _ _ _ _ _ _ _ _) H6.out (Gr.refl w6).drew
      obtain ⟨⟨s3, e3⟩, hS⟩ : ∃ R, R = syncR M2.s M2.x.nm.data.toList := ⟨_, rfl⟩
      have CS : Calls Tryz.prog 52 #[.pointer (some ⟨D, 0, none⟩), .string M2.x.nm] w6.drew (Does w6.drew B6 (stars (z5 x D P w.heap.size w1.heap.size 0 0 k s ⟨s3, M2.b, M2.x⟩)) (.int .i64 e3)) := by
        have := does_at (f := 52) 3 rfl (frs_z5 _ _ _ _ _ _ _ _ _ _) h6d fun B2 p2 => r_sync D M2.s M2.x.nm HOK2.out.n1 HOK2.out.n2 HC2.out w6.drew B2 p2
        rw [← hS] at this
        exact this
      have CSH := Lib.hid CS
      have HS := Lib.hid hS
      clear hp hb6 h6d CS hS
      go_wp2_with fail
      go_still_tail 8, (by kernel_rfl)
      change wpList _ _ _ _ _ w6.drew
      go_wp2_with fail
      refine CSH.out.mono ?_; rintro e w7 hd
      obtain ⟨rfl, B8, h8, n8⟩ := hd
      have CD : Calls Tryz.prog 21 #[.pointer (some ⟨x, 0, none⟩)] w7 (Does w7 B8 (stars (z5 x D P w.heap.size w1.heap.size 0 0 k s (dropM ⟨s3, M2.b, M2.x⟩))) (.tuple #[])) :=
        does_suf (f := 21) [Blk w1.heap.size (infoC k s) 50, Blk w.heap.size (infoC 0 0) 50] (M := [RWrA x D P M2.x, RDiskA D s3, RBuA P M2.b]) (M' := [RWrA x D P (dropM ⟨s3, M2.b, M2.x⟩).x, RDiskA D (dropM ⟨s3, M2.b, M2.x⟩).s, RBuA P (dropM ⟨s3, M2.b, M2.x⟩).b]) ⟨fr_blk _ _ _, fr_blk _ _ _, trivial⟩ h8 fun B1 p1 => rw_drop x D P ⟨s3, M2.b, M2.x⟩ w7 B1 p1
      have CDH := Lib.hid CD
      have N8 := Lib.hid ((N6.out.trans (Nx.gr (Gr.refl w6).drew)).trans n8)
      clear h8 n8 CD CSH
      go_wp2_with fail
      refine CDH.out.mono ?_; rintro e w9 hd
      obtain ⟨rfl, B9, h9, n9⟩ := hd
      obtain ⟨_, hb9, _⟩ := part_at 0 rfl h9
      obtain ⟨_, ha9, _⟩ := part_at 1 rfl h9
      have d0 : w9.cell? ⟨w1.heap.size, 0, none⟩ = some (.int .i64 k) := by rw [cells_at hb9.1]; rfl
      have d1 : w9.cell? ⟨w1.heap.size, 1, none⟩ = some (.int .u32 s) := by rw [cells_at hb9.1]; rfl
      have a0 : w9.cell? ⟨w.heap.size, 0, none⟩ = some (.int .i64 0) := by rw [cells_at ha9.1]; rfl
      have a1 : w9.cell? ⟨w.heap.size, 1, none⟩ = some (.int .u32 0) := by rw [cells_at ha9.1]; rfl
      have f0 := cells_free ha9.1 0
      have f1 := cells_free ha9.1 1
      have H9 := Lib.hid h9
      have N9 := Lib.hid (N8.out.trans n9)
      clear h9 n9 hb9 ha9 CDH
      by_cases h3 : e3 = 0
      · subst h3
        have HM := Lib.hid (show M = (dropM ⟨s3, M2.b, M2.x⟩, 0) by
          rw [HMM.out HX.out, ← HR.out]
          show (dropM ⟨(syncR M2.s M2.x.nm.data.toList).1, M2.b, M2.x⟩, (syncR M2.s M2.x.nm.data.toList).2) = _
          rw [← HS.out])
        obtain rfl := HM.out
        go_wp2_with fail
        have fin := z5_ret (n' := k) (s' := s) H9.out N9.out
        obtain ⟨B10, h10, n10, r0, r1⟩ := fin
        refine bodyPost_ret (info_ret Tryz.results23 rfl rfl r0 r1) rfl ?_
        exact ⟨by rw [HV.out]; rfl, B10, h10, n10⟩
      · have t1 : (e3 == 0) = false := by simpa using h3
        have t2 : (e3 != 0) = true := by simpa using h3
        have HM := Lib.hid (show M = (dropM ⟨s3, M2.b, M2.x⟩, e3) by
          rw [HMM.out HX.out, ← HR.out]
          show (dropM ⟨(syncR M2.s M2.x.nm.data.toList).1, M2.b, M2.x⟩, (syncR M2.s M2.x.nm.data.toList).2) = _
          rw [← HS.out])
        obtain rfl := HM.out
        clear h3
        go_wp2_with fail
        have fin := z5_ret (n' := 0) (s' := 0) H9.out N9.out
        obtain ⟨B10, h10, n10, r0, r1⟩ := fin
        refine bodyPost_ret (info_ret Tryz.results23 rfl rfl r0 r1) rfl ?_
        exact ⟨by rw [HV.out, if_neg (by simpa using t1), if_neg (by simpa using t1)]; rfl, B10, h10, n10⟩
    · have t1 : (e2 == 0) = false := by simpa using h0
      have t2 : (e2 != 0) = true := by simpa using h0
      have CD : Calls Tryz.prog 21 #[.pointer (some ⟨x, 0, none⟩)] w6 (Does w6 B6 (stars (z5 x D P w.heap.size w1.heap.size 0 0 k s (dropM M2))) (.tuple #[])) :=
        does_suf (f := 21) [Blk w1.heap.size (infoC k s) 50, Blk w.heap.size (infoC 0 0) 50] (M := [RWrA x D P M2.x, RDiskA D M2.s, RBuA P M2.b]) (M' := [RWrA x D P (dropM M2).x, RDiskA D (dropM M2).s, RBuA P (dropM M2).b]) ⟨fr_blk _ _ _, fr_blk _ _ _, trivial⟩ H6.out fun B1 p1 => rw_drop x D P M2 w6 B1 p1
      have CDH := Lib.hid CD
      have HM := Lib.hid (show M = (dropM M2, e2) by rw [HME.out (by rw [← HR.out]; exact h0), ← HR.out])
      clear CD
      clear h0
      go_wp2_with fail
      refine CDH.out.mono ?_; rintro e w9 hd
      obtain ⟨rfl, B9, h9, n9⟩ := hd
      obtain ⟨_, ha9, _⟩ := part_at 1 rfl h9
      have a0 : w9.cell? ⟨w.heap.size, 0, none⟩ = some (.int .i64 0) := by rw [cells_at ha9.1]; rfl
      have a1 : w9.cell? ⟨w.heap.size, 1, none⟩ = some (.int .u32 0) := by rw [cells_at ha9.1]; rfl
      have f0 := cells_free ha9.1 0
      have f1 := cells_free ha9.1 1
      have H9 := Lib.hid h9
      have N9 := Lib.hid (N6.out.trans n9)
      clear h9 n9 ha9 CDH
      obtain rfl := HM.out
      go_wp2_with fail
      have fin := z5_ret (n' := 0) (s' := 0) H9.out N9.out
      obtain ⟨B10, h10, n10, r0, r1⟩ := fin
      refine bodyPost_ret (info_ret Tryz.results23 rfl rfl r0 r1) rfl ?_
      exact ⟨by rw [HV.out, if_neg (by simpa using t1), if_neg (by simpa using t1)]; rfl, B10, h10, n10⟩
  · have t1 : (e1 == 0) = false := by simpa using he
    have t2 : (e1 != 0) = true := by simpa using he
    have HM := Lib.hid (HMF.out he)
    clear he
    obtain ⟨_, ha9, _⟩ := part_at 1 rfl H7.out
    have a0 : w4.cell? ⟨w.heap.size, 0, none⟩ = some (.int .i64 0) := by rw [cells_at ha9.1]; rfl
    have a1 : w4.cell? ⟨w.heap.size, 1, none⟩ = some (.int .u32 0) := by rw [cells_at ha9.1]; rfl
    have f0 := cells_free ha9.1 0
    have f1 := cells_free ha9.1 1
    clear ha9
    obtain rfl := HM.out
    go_wp2_with fail
    have fin := z5_ret (n' := 0) (s' := 0) H7.out N7.out
    obtain ⟨B10, h10, n10, r0, r1⟩ := fin
    refine bodyPost_ret (info_ret Tryz.results23 rfl rfl r0 r1) rfl ?_
    exact ⟨by rw [HV.out, if_neg (by simpa using t1), if_neg (by simpa using t1)]; rfl, B10, h10, n10⟩
theorem rw_close (x D P : Nat) (m : M3) (hm : m.ok) (hal : m.x.all.length ≤ 100000) (hc : m.s.calls ≤ 100000000000) (w : World) (B : Nat → Prop) (h : R3 x D P m w B) :
    Calls Tryz.prog 23 #[.pointer (some ⟨x, 0, none⟩)] w (RW3 x D P w B (closeM m).1 (closeV m (closeM m).2)) := by
  cases ho : m.x.opn
  · have e : closeM m = (m, 14) := by unfold closeM; rw [if_pos ho]
    rw [e]
    exact rw_close_shut x D P m ho w B h
  · by_cases hw : m.x.wait.length = 0
    · exact rw_close_none x D P m hm hal hc ho hw w B h
    · exact rw_close_some x D P m hm hal hc ho hw w B h
end Go.Proofs.YtcpaaenjfljocaaGreat
