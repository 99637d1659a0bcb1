/- In one text: MnPh. -/
import Derived.Test.YtignfbdgpgidpaaGreatDoorK19
import Derived.Test.YtignfbdgpgidpaaGreatDoorK15
import Derived.Deep.AppendLies
/- The program's layer 19: a manifest read by the cursor. -/
namespace Go.Proofs.YtignfbdgpgidpaaGreatDoor
open Go.RowKit FsPlain CrcPlain OctPlain MnPlain
set_option linter.unusedVariables false
set_option linter.unusedSimpArgs false
set_option maxRecDepth 20000
def PmGot (p : Nat) (b : ByteArray) (w : World) (e : Ending) (w' : World) : Prop := ∃ (c : Cu) (L : List Fl) (v : Value), e = .returned (.agg #[.int .i64 (stN b), .int .i64 (psN b), v]) ∧ PcAt b (cntN b) c L ∧ CuAt w' p b c ∧ LiesFl w' v L ∧ (∀ b n c, v = .slice (some b) n c → w.heap.size ≤ b.block) ∧ Only (fun i => i = p) w w'
def PmAt (b : ByteArray) (p B : Nat) (W : World) (vi : Value) (wr : World) : Prop :=
  ∃ (i : Nat) (c : Cu) (L : List Fl) (v2 : Value), i ≤ cntN b ∧ vi = .int .i64 (i : Int) ∧ PcAt b i c L ∧ CuAt wr p b c ∧ wr.heap[B]? = some (.cells #[.int .i64 (stN b), .int .i64 (psN b), v2] 27 (0, 0)) ∧ wr.ownsRow (B + 1) 48 4 v2 i (fls L) ∧ Only (fun k => k = p ∨ k = B) W wr
theorem pm_app {b : ByteArray} {p B n : Nat} {W wr u w2 : World} {st ps : Int} {v2 v' : Value} {l : List Fl} {x : Fl} {d : Cu} (hpB : p < B) (hW : W.heap.size = B + 1) (hb : wr.heap[B]? = some (.cells #[.int .i64 st, .int .i64 ps, v2] 27 (0, 0))) (hown : wr.ownsRow (B + 1) 48 4 v2 n (fls l)) (ho : Only (fun k => k = p ∨ k = B) W wr)
    (gu : CuTo p b d wr u) (o : Obj) (hown2 : w2.ownsRow (B + 1) 48 4 v' (n + 1) (fls l ++ flc x)) (hgrow : (u.alloc o).grownBy w2 v2.ownBlock) :
    (w2.frozen? ⟨B, 2, none⟩ = false ∧ w2.cell? ⟨B, 2, none⟩ = some v2) ∧
    CuAt (w2.setCell ⟨B, 2, none⟩ v') p b d ∧ (w2.setCell ⟨B, 2, none⟩ v').heap[B]? = some (.cells #[.int .i64 st, .int .i64 ps, v'] 27 (0, 0)) ∧ (w2.setCell ⟨B, 2, none⟩ v').ownsRow (B + 1) 48 4 v' (n + 1) (fls (l ++ [x])) ∧ Only (fun k => k = p ∨ k = B) W (w2.setCell ⟨B, 2, none⟩ v') := by
  have hlt := lt_of_block hb
  have hne : ∀ k, k ≤ B → some k ≠ v2.ownBlock := fun k hk e => by
    have := (hown.lt k e.symm).1
    omega
  have hu := gu.2.size
  have h1 : (u.alloc o).heap[B]? = some (.cells #[.int .i64 st, .int .i64 ps, v2] 27 (0, 0)) := by
    rw [Below.heap_alloc _ _ _ (by omega)]
    exact (gu.2.block B hlt (by omega)).trans hb
  have h2 : w2.heap[B]? = some (.cells #[.int .i64 st, .int .i64 ps, v2] 27 (0, 0)) := by
    rw [hgrow.block B (by rw [World.size_alloc]; omega) (hne B (Nat.le_refl _))]
    exact h1
  have hc2 : CuAt w2 p b d := by
    unfold CuAt
    rw [hgrow.block p (by rw [World.size_alloc]; omega) (hne p (by omega)), Below.heap_alloc _ _ _ (by omega)]
    exact gu.1
  obtain ⟨B', h3, _⟩ := blk_next (i := 2) (show Blk B #[.int .i64 st, .int .i64 ps, v2] 27 w2 (fun b => b = B) from ⟨h2, fun b => Iff.rfl⟩) v'
  have hw2 := hgrow.size
  rw [World.size_alloc] at hw2
  refine ⟨⟨cells_free h2 2, by rw [cells_at h2]; rfl⟩, ?_, h3.1, ?_, ?_⟩
  · exact ((Only.cell1 w2 B 2 v').block p (by omega) (by omega)).trans hc2
  · rw [fls_snoc]
    exact ownsRow_setCell_below hown2 (Nat.lt_succ_self B) v'
  · have o1 : Only (fun k => k = p ∨ k = B) W u := ho.andThen gu.2 fun k e => .inl (.inl e)
    have o2 : Only (fun k => k = p ∨ k = B) W (u.alloc o) := o1.trans (Only.alloc _ u o)
    have o3 : Only (fun k => v2.ownBlock = some k) (u.alloc o) w2 := Only.grown hgrow fun k e => e
    have o4 : Only (fun k => k = p ∨ k = B) W w2 := o2.andThen o3 fun k e => .inr (by rw [hW]; exact (hown.lt k e).1)
    exact o4.andThen (Only.cell1 w2 B 2 v') fun k e => .inl (.inr e)
set_option maxHeartbeats 8000000 in
theorem cmanifest_c (p : Nat) (b : ByteArray) (hb : b.size ≤ 1000) (w : World) (h : CuAt w p b ⟨0, false⟩) :
    Calls Tryz.prog 148 #[.pointer (some ⟨p, 0, none⟩)] w (PmGot p b w) := by
  have hpl := lt_of_block h
  obtain ⟨i0, hi, hz0, hz1, hz2⟩ := info_parts infoFl
  obtain ⟨W0, hW⟩ : ∃ W, W = w.alloc (.cells #[.int .i64 0, .int .i64 0, .slice none 0 0] 27) := ⟨_, rfl⟩
  have gW : Gr w W0 := by rw [hW]; exact gr19 _ _
  have hz : W0.heap.size = w.heap.size + 1 := by rw [hW]; simp
  have y0 : W0.heap[w.heap.size]? = some (.cells #[.int .i64 0, .int .i64 0, .slice none 0 0] 27 (0, 0)) := by rw [hW]; exact heap_alloc_new w _
  have C1 := Lib.hid (cexpect_c p b hb W0 (cu_gr h gW))
  have C2 := Lib.hid (fun u (hu : CuAt u p b (head1 b)) => cnext_c p 2 b (head1 b) hb (show 4 ≤ 900000 by omega) (by omega) u hu)
  have C3 := Lib.hid (fun u (hu : CuAt u p b (nextC b 2 (head1 b))) => cnext_c p 2 b (nextC b 2 (head1 b)) hb (show 6 ≤ 900000 by omega) (by omega) u hu)
  have C4 := fun u (hu : CuAt u p b (nextC b 2 (nextC b 2 (head1 b)))) => cnext_c p 1 b (nextC b 2 (nextC b 2 (head1 b))) hb (show 8 ≤ 900000 by omega) (by omega) u hu
  have n1 : getC b 1 (nextC b 2 (nextC b 2 (head1 b))) = ((cntN b : Nat) : Int) := by unfold cntN; have := getC_nat (b := b) (k := 1) (c := nextC b 2 (nextC b 2 (head1 b))); omega
  rw [n1] at C4
  replace C4 := Lib.hid C4
  have cl := cnt_lt b
  have ST0 := Lib.hid (pc_start b)
  obtain ⟨st, hst⟩ : ∃ st, stN b = st := ⟨_, rfl⟩
  obtain ⟨ps, hps⟩ : ∃ ps, psN b = ps := ⟨_, rfl⟩
  obtain ⟨n, hn⟩ : ∃ n, cntN b = n := ⟨_, rfl⟩
  have hst2 : getC b 2 (head1 b) = st := hst
  have hps2 : getC b 2 (nextC b 2 (head1 b)) = ps := hps
  rw [hst2] at C2
  rw [hps2] at C3
  rw [hn] at C4 cl
  have HE := Lib.hid (show headE b = nextC b 1 (nextC b 2 (nextC b 2 (head1 b))) from rfl)
  have HS := Lib.hid (show stN b = st ∧ psN b = ps ∧ cntN b = n from ⟨hst, hps, hn⟩)
  have K := Lib.hid (show ∀ u, Only (fun i => i = p) W0 u → u.heap[w.heap.size]? = some (.cells #[.int .i64 0, .int .i64 0, .slice none 0 0] 27 (0, 0)) ∧ W0.heap.size = w.heap.size + 1 ∧ Only (fun i => i = p) w u from fun u g => ⟨(g.block _ (by omega) (by omega)).trans y0, hz, (Only.ofGr gW).trans g⟩)
  have HW := Lib.hid hW
  clear h gW hz y0 hW n1 hst hps hn hst2 hps2
  go_enter Tryz.func148, Tryz.ntmps148
  go_wp2_with fail
  rw [← HW.out]
  refine C1.out.mono ?_; rintro e u1 ⟨rfl, h1⟩
  have D2 := Lib.hid (C2.out u1 h1.1)
  have H1 := Lib.hid h1
  clear h1 C1 C2
  go_wp2_with fail
  refine D2.out.mono ?_; rintro e u2 ⟨rfl, h2⟩
  have H2 := Lib.hid (cu_to H1.out.2 h2)
  have D3 := Lib.hid (C3.out u2 h2.1)
  clear h2 C3 D2 H1
  go_wp2_with fail
  refine D3.out.mono ?_; rintro e u3 ⟨rfl, h3⟩
  have h3 := cu_to H2.out.2 h3
  obtain ⟨W, hWW⟩ : ∃ W, W = u3.alloc (.cells #[.int .i64 st, .int .i64 ps, .slice none 0 0] 27) := ⟨_, rfl⟩
  have g3 : Gr u3 W := by rw [hWW]; exact gr19 _ _
  have hz3 : W.heap.size = u3.heap.size + 1 := by rw [hWW]; simp
  have y3 : W.heap[u3.heap.size]? = some (.cells #[.int .i64 st, .int .i64 ps, .slice none 0 0] 27 (0, 0)) := by rw [hWW]; exact heap_alloc_new u3 _
  have hpu : p < u3.heap.size := lt_of_block h3.1
  obtain ⟨x3, hz0s, o3⟩ := K.out u3 h3.2
  have hwu : w.heap.size + 1 ≤ u3.heap.size := by have := h3.2.size; omega
  have D4 := Lib.hid (C4.out W (cu_gr h3.1 g3))
  have H3 := Lib.hid h3
  have HWW := Lib.hid hWW
  have KZ := Lib.hid (show p < u3.heap.size ∧ w.heap.size + 1 ≤ u3.heap.size ∧ W.heap.size = u3.heap.size + 1 from ⟨hpu, hwu, hz3⟩)
  have KW := Lib.hid (show ∀ u, Only (fun k => k = p ∨ k = u3.heap.size) W u → u.heap[w.heap.size]? = some (.cells #[.int .i64 0, .int .i64 0, .slice none 0 0] 27 (0, 0)) ∧ Only (fun i => i = p) w u from fun u g => ⟨(g.block _ (by omega) (by omega)).trans ((g3.block _ (by omega)).trans x3), (o3.trans (Only.ofGr g3)).andThen g fun i e => e.imp id (fun k => by omega)⟩)
  have Y3 := Lib.hid y3
  clear h3 C4 D3 H2 hWW g3 hz3 y3 x3 hz0s o3 hpu hwu
  go_wp2_with fail
  rw [← HWW.out]
  refine D4.out.mono ?_; rintro e u4 ⟨rfl, h4⟩
  rw [← HE.out] at h4
  have ST := Lib.hid (show PmAt b p u3.heap.size W (.int .i64 0) u4 from ⟨0, headE b, [], .slice none 0 0, Nat.zero_le _, rfl, ST0.out, h4.1, by
    rw [HS.out.1, HS.out.2.1]
    exact (h4.2.block _ (by have := KZ.out; omega) (by have := KZ.out; omega)).trans Y3.out, World.ownsRow_nil _ _ _ _, h4.2.mono fun i e => .inl e⟩)
  clear h4 D4 Y3 ST0 HE
  go_wp2_with fail
  go_loopw [13] (fun vi wr => PmAt b p u3.heap.size W vi wr) (fun vi _ => n - (intOf vi).toNat)
  case atStart => exact ST.out
  case round =>
    clear ST
    obtain ⟨i, c, L, v2, hin, rfl, hpc, hcu, hbb, hown, ho⟩ := hrel
    rw [HS.out.2.2] at hin
    rw [HS.out.1, HS.out.2.1] at hbb
    by_cases hlt : i < n
    · have q1 : (i : Int) < (n : Int) := by omega
      have hcp : c.p ≤ 800000 := by have := hpc.2.1; omega
      have hstep := pc_step hpc hb (by rw [HS.out.2.2]; exact hlt)
      have hkz := KZ.out
      have hwz := ho.size
      have hfc := fun u (g : Gr wr u) => cfile_c p b c hb hcp u (cu_gr hcu g)
      obtain ⟨f, hf⟩ : ∃ f, fileF b c = f := ⟨_, rfl⟩
      obtain ⟨d, hd⟩ : ∃ d, fileE b c = d := ⟨_, rfl⟩
      rw [hf, hd] at hstep hfc
      obtain ⟨a2, c2, rfl⟩ : ∃ a2 c2, v2 = .slice a2 i c2 := by
        obtain ⟨a2, c2, e, _⟩ := liesFl_own (l := L) (by rw [hpc.1]; exact hown)
        exact ⟨a2, c2, by rw [e, hpc.1]⟩
      have hbl := lt_of_block hbb
      have cB : wr.cell? ⟨u3.heap.size, 2, none⟩ = some (.slice a2 i c2) := by rw [cells_at hbb]; rfl
      have hpne : some p ≠ (Value.slice a2 i c2).ownBlock := fun e => by have := (hown.lt p e.symm).1; omega
      have CL := Lib.hid (fun u (g : Gr wr u) => (hfc u g).mono fun e w' hh => (⟨hh.1, cu_to (Only.ofGr g) hh.2, by
          have o := (cu_to (Only.ofGr g) hh.2).2
          exact (o.cell (p := ⟨u3.heap.size, 2, none⟩) hbl (by show ¬ (u3.heap.size = p); omega)).trans cB, by have := (cu_to (Only.ofGr g) hh.2).2.size; omega⟩ : e = .returned (.agg #[.string f.name, .int .i64 f.size, .int .i64 f.count, .int .u32 f.sum]) ∧ CuTo p b d wr w' ∧ w'.cell? ⟨u3.heap.size, 2, none⟩ = some (.slice a2 i c2) ∧ u3.heap.size < w'.heap.size))
      have RW := Lib.hid (fun u (g : CuTo p b d wr u) => hown.kept (Only.grownBy g.2) (.inr fun e => hpne e.symm))
      have AP := Lib.hid (fun u b1 cap1 w1 (gu : CuTo p b d wr u) o (o1 : w1.ownsRow (u3.heap.size + 1) 48 4 (.slice (some ⟨b1, 0, none⟩) (i + 1) cap1) (i + 1) (fls L ++ flc f)) (g1 : (u.alloc o).grownBy w1 (Value.slice a2 i c2).ownBlock) => pm_app hkz.1 hkz.2.2 hbb hown ho gu o o1 g1)
      have NX := Lib.hid (show ∀ (v' : Value) u, CuAt u p b d → u.heap[u3.heap.size]? = some (.cells #[.int .i64 st, .int .i64 ps, v'] 27 (0, 0)) → u.ownsRow (u3.heap.size + 1) 48 4 v' (i + 1) (fls (L ++ [f])) → Only (fun k => k = p ∨ k = u3.heap.size) W u → PmAt b p u3.heap.size W (.int .i64 ((i : Int) + 1)) u from fun v' u a1 a2 a3 a4 => ⟨i + 1, d, L ++ [f], v', by rw [HS.out.2.2]; omega, rfl, hstep, a1, by rw [HS.out.1, HS.out.2.1]; exact a2, a3, a4⟩)
      have gd : Gr wr wr.drew := (Gr.refl wr).drew
      have hbI : (i + 1) * 40 ≤ 140737488355328 ∧ i + 1 ≤ maxLen := ⟨by omega, by unfold maxLen; omega⟩
      have hul : u3.heap.size + 1 ≤ wr.heap.size := by omega
      have hub : ∀ u, CuTo p b d wr u → wr.heap.size ≤ u.heap.size := fun u g => g.2.size
      have HU := Lib.hid hub
      clear hpc hcu hbb hown ho hcp hstep hfc hf hd hpne hub cl hwz
      go_wp2_with fail
      go_region_law (first | (go_simp; go_at_call 173; ((with_reducible refine (CL.out _ (by assumption)).mono ?_); rintro e u ⟨rfl, gu, hu, hxu⟩)) | (refine step_append_lies _ rfl (.tmp 16) (.tmp 19) 25 rfl (u3.heap.size + 1) 48 i0 (.agg #[.string ⟨#[]⟩, .int .i64 0, .int .i64 0, .int .u32 0]) 4 40 Tryz.underlying25 hi hz0 hz1 hz2 rfl (by decide) (.slice a2 i c2) i (fls L) (by simp [Act.eval, Act.put]) (by have := RW.out _ gu; exact this.alloc _) ⟨_, 0, none⟩ 1 1 (flc f) (by simp [Act.eval, Act.put]) rfl (World.news_of_block (heap_alloc_new _ _)) (flc_one f) (by omega) hbI.2 hbI.1 (by have := HU.out _ gu; simp only [World.size_alloc]; omega) _ rfl ?_; intro b1 cap1 w1 ho1 hg1 ha1 hl1; obtain ⟨hf1, hc1⟩ := (AP.out _ _ _ _ gu _ ho1 hg1).1))
      all_goals
        obtain ⟨_, a1, a2, a3, a4⟩ := AP.out _ _ _ _ gu _ ho1 hg1
        have N2 := Lib.hid (NX.out _ _ a1 a2 a3 a4)
        clear a1 a2 a3 a4 ho1 hg1 ha1 hl1 hf1 hc1 gu hu hxu
        go_wp2_with fail
        go_roundw
        case rel => exact N2.out
        case measure => simp [intOf]; omega
    · have hie : i = n := by omega
      have q1 : ¬ (i : Int) < (n : Int) := by omega
      have hkz := KZ.out
      obtain ⟨xq, oq⟩ := KW.out wr ho
      have hpl2 := lt_of_block hcu
      obtain ⟨r1, r2⟩ := mn_store2 xq rfl (.int .i64 st) (.int .i64 ps) v2
      obtain ⟨a2, c2, e2, _⟩ := liesFl_own (l := L) (by rw [hpc.1]; exact hown)
      have hqB : w.heap.size < u3.heap.size + 1 := by omega
      have hown2 := ownsRow_setCell_below (ownsRow_setCell_below (ownsRow_setCell_below hown (a := ⟨w.heap.size, 0, none⟩) hqB (.int .i64 st)) (a := ⟨w.heap.size, 1, none⟩) hqB (.int .i64 ps)) (a := ⟨w.heap.size, 2, none⟩) hqB v2
      have R1 := Lib.hid r1
      have R2 := Lib.hid (show PmGot p b w (.returned (.agg #[.int .i64 st, .int .i64 ps, v2])) _ from ⟨c, L, v2, by rw [HS.out.1, HS.out.2.1], by rw [HS.out.2.2, ← hie]; exact hpc, (r2.block p hpl2 (by omega)).trans hcu, liesFl_own (l := L) (by rw [hpc.1]; exact hown2), fun b' n' c' e => by
        have := (hown.lt b'.block (by rw [e]; rfl)).1
        omega, oq.andThen r2 fun i hi => .inr (by omega)⟩)
      rw [hpc.1] at e2
      subst e2
      have kB0 : wr.cell? ⟨u3.heap.size, 0, none⟩ = some (.int .i64 st) := by rw [cells_at hbb]; rfl
      have kB1 : wr.cell? ⟨u3.heap.size, 1, none⟩ = some (.int .i64 ps) := by rw [cells_at hbb]; rfl
      have kB2 : wr.cell? ⟨u3.heap.size, 2, none⟩ = some (.slice a2 i c2) := by rw [cells_at hbb]; rfl
      have kC0 : wr.cell? ⟨w.heap.size, 0, none⟩ = some (.int .i64 0) := by rw [cells_at xq]; rfl
      have kC1 : wr.cell? ⟨w.heap.size, 1, none⟩ = some (.int .i64 0) := by rw [cells_at xq]; rfl
      have kC2 : wr.cell? ⟨w.heap.size, 2, none⟩ = some (.slice none 0 0) := by rw [cells_at xq]; rfl
      have kf0 := cells_free xq 0
      have kf1 := cells_free xq 1
      have kf2 := cells_free xq 2
      clear hpc hcu hbb hown ho xq oq r1 r2 hown2 hie cl hin
      go_wp2_with fail
      exact bodyPost_ret (mn_results rfl rfl rfl rfl rfl R1.out) rfl R2.out
end Go.Proofs.YtignfbdgpgidpaaGreatDoor
