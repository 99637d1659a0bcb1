/- In one text: MnRef7. -/
import Derived.Test.YtckmciafonnohaaGreatP24
import Derived.Test.YtckmciafonnohaaGreatP25
import Derived.Test.YtckmciafonnohaaGreatP16
import Derived.BigQuiet
import Derived.Deep.DeepCutAuto
/- The document's answers of layer 19: Get. -/
namespace Go.Proofs.YtckmciafonnohaaGreat
open Go.RowKit FsPlain CrcPlain OctPlain MnPlain
set_option linter.unusedVariables false
set_option linter.unusedSimpArgs false
set_option maxRecDepth 20000
theorem wrap_in {x : Int} (h0 : 0 ≤ x) (h1 : x ≤ 1000000) : wrap64 x = x := by unfold wrap64; omega
theorem get_sums {p n z i : Nat} (h : p + 1 + n + 13 ≤ z) (hz : z ≤ 700) (hi : i ≤ 17) : ¬ (z : Int) < (p : Int) + 1 + (n : Int) + 13 ∧ ((0 : Int) ≤ (p : Int) + 1 ∧ (p : Int) + 1 ≤ (p : Int) + 1 + (n : Int) ∧ (p : Int) + 1 + (n : Int) ≤ (z : Int) ∧ ((p : Int) + 1).toNat = p + 1 ∧ ((p : Int) + 1 + (n : Int)).toNat = p + 1 + n) ∧
    (wrap64 ((p : Int) + 1) = (p : Int) + 1 ∧ wrap64 ((p : Int) + 1 + (n : Int)) = (p : Int) + 1 + (n : Int) ∧ wrap64 ((p : Int) + 1 + (n : Int) + 13) = (p : Int) + 1 + (n : Int) + 13 ∧ wrap64 ((p : Int) + 1 + (n : Int) + 1) = (p : Int) + 1 + (n : Int) + 1 ∧ wrap64 ((p : Int) + 1 + (n : Int) + 9) = (p : Int) + 1 + (n : Int) + 9 ∧ wrap64 ((i : Int) + 1) = (i : Int) + 1) ∧
    (I64 ((p : Int) + 1 + (n : Int)) ∧ I64 ((p : Int) + 1 + (n : Int) + 1) ∧ I64 ((p : Int) + 1 + (n : Int) + 9)) :=
  ⟨by omega, ⟨by omega, by omega, by omega, by omega, by omega⟩, ⟨wrap_in (by omega) (by omega), wrap_in (by omega) (by omega), wrap_in (by omega) (by omega), wrap_in (by omega) (by omega), wrap_in (by omega) (by omega), wrap_in (by omega) (by omega)⟩, by unfold I64; omega, by unfold I64; omega, by unfold I64; omega⟩
/-- At the head of a file: what the loop knows. -/
def GfAt (s : ByteArray) (B : Nat) (w1 : World) (vp vi : Value) (wr : World) : Prop :=
  ∃ (i p : Nat) (L : List Fl) (v2 : Value), GtAt s i p L ∧ vi = .int .i64 (i : Int) ∧ vp = .int .i64 (p : Int) ∧ wr.heap[B]? = some (.cells #[.int .i64 (getN s 4 2), .int .i64 (getN s 6 2), v2] 36 (0, 0)) ∧ wr.ownsRow (B + 1) 85 4 v2 L.length (fls L) ∧ Only (fun b => b = B) w1 wr
theorem wt_zero {w u : World} {q : Nat} (hw : w.heap.size ≤ q) (g : Gr w u) {c : Array Value} {T : TypeId} (hc : u.heap[q]? = some (.cells c T (0, 0))) (x y z : Value) :
    (((u.setCell ⟨q, 0, none⟩ x).setCell ⟨q, 1, none⟩ y).setCell ⟨q, 2, none⟩ z).heap[q]? = some (.cells (((c.setIfInBounds 0 x).setIfInBounds 1 y).setIfInBounds 2 z) T (0, 0)) ∧ Gr w (((u.setCell ⟨q, 0, none⟩ x).setCell ⟨q, 1, none⟩ y).setCell ⟨q, 2, none⟩ z) := by
  have o := ((Only.cell1 u q 0 x).trans (Only.cell1 _ q 1 y)).trans (Only.cell1 _ q 2 z)
  obtain ⟨_, b1, _⟩ := blk_next (i := 0) (show Blk q c T u (fun b => b = q) from ⟨hc, fun b => Iff.rfl⟩) x
  obtain ⟨_, b2, _⟩ := blk_next (i := 1) b1 y
  obtain ⟨_, b3, _⟩ := blk_next (i := 2) b2 z
  exact ⟨b3.1, Below.trans g (o.toBelow (n := w.heap.size) g.size fun b e => by omega)⟩
theorem rget19_short (s : ByteArray) (w : World) (h : s.size < 13) :
    Calls Tryz.prog 47 #[.string s] w (GtSays s w) := by
  have q1 : (s.size : Int) < 13 := by omega
  have HN := Lib.hid (show ∀ m, ¬ mnIs s m from fun m hm => by
    have := mnS_size m
    rw [hm.2.2] at this
    omega)
  clear h
  go_enter Tryz.func47, Tryz.ntmps47
  go_wp2_with fail
  exact bodyPost_ret (mn_results2 rfl rfl rfl (heap_alloc_new w _)) rfl ⟨.inr ⟨HN.out, rfl⟩, (Gr.refl w).alloc (Nat.le_refl _) _⟩
set_option maxHeartbeats 8000000 in
theorem rget19_long (s : ByteArray) (w : World) (h : 13 ≤ s.size) (hs : s.size ≤ 700) :
    Calls Tryz.prog 47 #[.string s] w (GtSays s w) := by
  have h8 : 8 < s.size := by omega
  obtain ⟨i0, hi, hz0, hz1, hz2⟩ := info_parts infoFl
  have I8 := Lib.hid (index_8 s h8)
  have q1 : ¬ (s.size : Int) < 13 := by omega
  have G1 := Lib.hid (fun (a k : Int) (ha : I64 a) (hk : I64 k) (u : World) => rget_c s a k ha hk u (by omega))
  have H := Lib.hid (show 13 ≤ s.size ∧ s.size ≤ 700 from ⟨h, hs⟩)
  clear h hs
  go_enter Tryz.func47, Tryz.ntmps47
  go_wp2_with fail
  refine (G1.out 4 2 (by unfold I64; omega) (by unfold I64; omega) _).mono ?_; rintro e u ⟨rfl, rfl⟩
  go_wp2_with fail
  refine (G1.out 6 2 (by unfold I64; omega) (by unfold I64; omega) _).mono ?_; rintro e u ⟨rfl, rfl⟩
  go_wp2_with fail
  obtain ⟨W, hW⟩ : ∃ W, W = (w.alloc (.cells #[.int .i64 0, .int .i64 0, .slice none 0 0] 36)).alloc (.cells #[.int .i64 (getN s 4 2), .int .i64 (getN s 6 2), .slice none 0 0] 36) := ⟨_, rfl⟩
  rw [← hW]
  have gW : Gr w W := by rw [hW]; exact ((Gr.refl w).alloc (Nat.le_refl _) _).alloc (by simp) _
  have hz : W.heap.size = w.heap.size + 1 + 1 := by rw [hW]; simp
  have y0 : W.heap[w.heap.size]? = some (.cells #[.int .i64 0, .int .i64 0, .slice none 0 0] 36 (0, 0)) := by
    rw [hW, Below.heap_alloc _ _ _ (by simp)]
    exact heap_alloc_new w _
  have y1 : W.heap[w.heap.size + 1]? = some (.cells #[.int .i64 (getN s 4 2), .int .i64 (getN s 6 2), .slice none 0 0] 36 (0, 0)) := by
    rw [hW]
    have := heap_alloc_new (w.alloc (.cells #[.int .i64 0, .int .i64 0, .slice none 0 0] 36)) (.cells #[.int .i64 (getN s 4 2), .int .i64 (getN s 6 2), .slice none 0 0] 36)
    rwa [World.size_alloc] at this
  have ST := Lib.hid (show GfAt s (w.heap.size + 1) W (.int .i64 9) (.int .i64 0) W from ⟨0, 9, [], .slice none 0 0, gt_start H.out.1, rfl, rfl, y1, World.ownsRow_nil _ _ _ _, Only.refl _ _⟩)
  have SH := Lib.hid (fun (wr u : World) (ho : Only (fun b => b = w.heap.size + 1) W wr) (q : Gr wr u) => (⟨(q.block _ (by have := ho.size; omega)).trans ((ho.block _ (by omega) (by omega)).trans y0), Below.trans gW (Below.trans (ho.toBelow (n := w.heap.size) (by omega) (fun b e => by omega)) (Below.mono q (by have := ho.size; omega)))⟩ : u.heap[w.heap.size]? = some (.cells #[.int .i64 0, .int .i64 0, .slice none 0 0] 36 (0, 0)) ∧ Gr w u))
  have HZ := Lib.hid hz
  obtain ⟨b8, hb8⟩ : ∃ b, s[8].toNat = b := ⟨_, rfl⟩
  have hb256 : b8 < 256 := by rw [← hb8]; exact s[8].toNat_lt
  have HB := Lib.hid hb8
  have I9 := Lib.hid (show ∀ u : World, (Instr.index 9 (.string s) (.int .i64 8)).run Tryz.prog u = .ok (.int .u8 (b8 : Int)) u from fun u => by rw [I8.out, hb8])
  have wb : IntKind.i64.wrap (b8 : Int) = (b8 : Int) := IntWalk.i64_in _ (by omega)
  clear hW gW hz y0 y1 I8 hb8
  go_loopw [3, 9, 10] (fun _ vp vi wr => GfAt s (w.heap.size + 1) W vp vi wr) (fun _ _ vi _ => 17 - (intOf vi).toNat)
  case atStart => exact ST.out
  case round =>
    clear ST
    obtain ⟨i, p, L, v2, hgt, rfl, rfl, hb, hown, ho⟩ := hrel
    have i8 := I9.out wr
    have hl := hgt.1
    have hi17 := hgt.2.1
    have hps := hgt.2.2.1
    obtain ⟨hw0, G0⟩ := SH.out wr wr ho (Gr.refl wr)
    have hsz := H.out
    have kC0 : wr.cell? ⟨w.heap.size, 0, none⟩ = some (.int .i64 0) := by rw [cells_at hw0]; rfl
    have kC1 : wr.cell? ⟨w.heap.size, 1, none⟩ = some (.int .i64 0) := by rw [cells_at hw0]; rfl
    have kC2 : wr.cell? ⟨w.heap.size, 2, none⟩ = some (.slice none 0 0) := by rw [cells_at hw0]; rfl
    have kf0 := cells_free hw0 0
    have kf1 := cells_free hw0 1
    have kf2 := cells_free hw0 2
    have Z := Lib.hid (wt_zero (Nat.le_refl _) G0 hw0 (.int .i64 0) (.int .i64 0) (.slice none 0 0))
    by_cases c1 : i < b8
    · have c1I : (i : Int) < (b8 : Int) := by omega
      by_cases c2 : i < 17
      · have c2I : (i : Int) < 17 := by omega
        have hn0 := get_nat (s := s) (a := (p : Int)) (k := 1)
        have hn1 : getN s (p : Int) 1 < 256 := by simpa using get_lt (s := s) (a := (p : Int)) (k := 1) (by omega)
        have hI := get_i64 (s := s) (a := (p : Int)) (k := 1)
        obtain ⟨n, hn⟩ : ∃ n : Nat, getN s (p : Int) 1 = (n : Int) := ⟨(getN s (p : Int) 1).toNat, by omega⟩
        have GN := Lib.hid (fun k => gt_no hgt h8 (by rw [HB.out]; exact c1) k)
        have R1 := G1.out (p : Int) 1 (by unfold I64; omega) (by unfold I64; omega) wr
        rw [hn] at R1
        have hn256 : n < 256 := by omega
        clear hn0 hn1 hI
        cases hok : getB s (p : Int) 1 with
        | false =>
          have GN2 := Lib.hid (GN.out (.inl hok))
          rw [hok] at R1
          clear hgt hown ho hb hl hi17 hps hsz hn256 hn c1 c2 hw0 G0
          go_wp2_with fail
          refine R1.mono ?_; rintro e u ⟨rfl, rfl⟩
          go_wp2_with fail
          exact bodyPost_ret (mn_results2 rfl rfl rfl Z.out.1) rfl ⟨.inr ⟨GN2.out, rfl⟩, Z.out.2⟩
        | true =>
          rw [hok] at R1
          have hpI : (p : Int) ≤ 700 := by omega
          have hnI : (n : Int) ≤ 256 := by omega
          by_cases c3 : p + 1 + n + 13 ≤ s.size
          · obtain ⟨c3I, ⟨s1, s2, s3, t1, t2⟩, -, i2, i3, i4⟩ := get_sums c3 H.out.2 hi17
            have GN2 := Lib.hid (fun k => GN.out (.inr ⟨n, hn, .inr k⟩))
            have GS := Lib.hid (gt_step hgt h8 (by have := H.out.2; omega) (by rw [HB.out]; exact c1) c2 hn c3)
            have hF := file_K (s := s) (p := p) (n := n) (by omega) (by omega)
            have SL : ∀ u : World, (Instr.slice 9 (.string s) (some (.int .i64 ((p : Int) + 1))) (some (.int .i64 ((p : Int) + 1 + (n : Int)))) none).run Tryz.prog u = .ok (.string (s.extract (p + 1) (p + 1 + n))) u := fun u => by
              have h1 := run_slice_string (P := Tryz.prog) u 9 s .i64 .i64 ((p : Int) + 1) ((p : Int) + 1 + (n : Int)) Tryz.underlying9 s1 s2 s3
              rw [t1, t2] at h1
              exact h1
            have R2 := fun u => G1.out ((p : Int) + 1 + (n : Int)) 1 i2 (by unfold I64; omega) u
            have R3 := fun u => G1.out ((p : Int) + 1 + (n : Int) + 1) 8 i3 (by unfold I64; omega) u
            have R4 := fun u => G1.out ((p : Int) + 1 + (n : Int) + 9) 4 i4 (by unfold I64; omega) u
            obtain ⟨f, hf⟩ : ∃ f, fileAt s p n = f := ⟨_, rfl⟩
            rw [hf] at hF GS
            have e0 : s.extract (p + 1) (p + 1 + n) = f.name := by rw [← hf]; rfl
            have e1 : getN s ((p : Int) + 1 + (n : Int)) 1 = f.size := by rw [← hf]; rfl
            have e2 : getN s ((p : Int) + 1 + (n : Int) + 1) 8 = f.count := by rw [← hf]; rfl
            have e3 : getN s ((p : Int) + 1 + (n : Int) + 9) 4 = f.sum := by rw [← hf]; rfl
            rw [e0] at SL
            rw [e1] at R2
            rw [e2] at R3
            rw [e3] at R4
            obtain ⟨V, hV⟩ : ∃ V, V = wr.alloc (.cells #[.string f.name, .int .i64 0, .int .i64 0, .int .u32 0] 85) := ⟨_, rfl⟩
            have gV : Gr wr V := by rw [hV]; exact gr19 _ _
            have yV : V.heap[wr.heap.size]? = some (.cells #[.string f.name, .int .i64 0, .int .i64 0, .int .u32 0] 85 (0, 0)) := by rw [hV]; exact heap_alloc_new wr _
            have hwz := ho.size
            have HV := Lib.hid hV
            have HR1 := Lib.hid R1
            have HR2 := Lib.hid (R2 V)
            have HR4 := Lib.hid R4
            cases hok8 : getB s ((p : Int) + 1 + (n : Int) + 1) 8 with
            | false =>
              have HN := Lib.hid (GN2.out hok8)
              rw [hok8] at R3
              have HR3 := Lib.hid (R3 V)
              have xV : V.heap[w.heap.size]? = some (.cells #[.int .i64 0, .int .i64 0, .slice none 0 0] 36 (0, 0)) := (gV.block _ (lt_of_block hw0)).trans hw0
              have kC0 : V.cell? ⟨w.heap.size, 0, none⟩ = some (.int .i64 0) := by rw [cells_at xV]; rfl
              have kC1 : V.cell? ⟨w.heap.size, 1, none⟩ = some (.int .i64 0) := by rw [cells_at xV]; rfl
              have kC2 : V.cell? ⟨w.heap.size, 2, none⟩ = some (.slice none 0 0) := by rw [cells_at xV]; rfl
              have kf0 := cells_free xV 0
              have kf1 := cells_free xV 1
              have kf2 := cells_free xV 2
              have Z2 := Lib.hid (wt_zero (Nat.le_refl _) (G0.trans gV) xV (.int .i64 0) (.int .i64 0) (.slice none 0 0))
              clear hgt hb hown ho R1 R2 R3 R4 c3 hw0 G0 hl hi17 hps hsz hn256 hn hok c1 c2 Z GN s1 s2 s3 t1 t2 hf e0 e1 e2 e3 hF hV gV yV xV hok8 hwz
              go_wp2_with fail
              refine HR1.out.mono ?_; rintro e u ⟨rfl, rfl⟩
              clear HR1 i8
              go_wp2_with fail
              rw [← HV.out]
              refine HR2.out.mono ?_; rintro e u ⟨rfl, rfl⟩
              clear HR2
              go_wp2_with fail
              refine HR3.out.mono ?_; rintro e u ⟨rfl, rfl⟩
              clear HR3
              go_wp2_with fail
              refine (HR4.out _).mono ?_; rintro e u ⟨rfl, rfl⟩
              clear HR4
              go_wp2_with fail
              exact bodyPost_ret (mn_results2 rfl rfl rfl Z2.out.1) rfl ⟨.inr ⟨HN.out, rfl⟩, Z2.out.2⟩
            | true =>
              rw [hok8] at R3
              have HR3 := Lib.hid (R3 V)
              obtain ⟨U, hU⟩ : ∃ U, ((V.setCell ⟨wr.heap.size, 1, none⟩ (.int .i64 f.size)).setCell ⟨wr.heap.size, 2, none⟩ (.int .i64 f.count)).setCell ⟨wr.heap.size, 3, none⟩ (.int .u32 f.sum) = U := ⟨_, rfl⟩
              have z1 := cells_set yV 1 (.int .i64 f.size)
              have z2 := cells_set z1 2 (.int .i64 f.count)
              have z3 := cells_set z2 3 (.int .u32 f.sum)
              rw [hU] at z3
              have v1 : V.cell? ⟨wr.heap.size, 1, none⟩ = some (.int .i64 0) := by rw [cells_at yV]; rfl
              have v2c : (V.setCell ⟨wr.heap.size, 1, none⟩ (.int .i64 f.size)).cell? ⟨wr.heap.size, 2, none⟩ = some (.int .i64 0) := by rw [cells_at z1]; rfl
              have v3 : ((V.setCell ⟨wr.heap.size, 1, none⟩ (.int .i64 f.size)).setCell ⟨wr.heap.size, 2, none⟩ (.int .i64 f.count)).cell? ⟨wr.heap.size, 3, none⟩ = some (.int .u32 0) := by rw [cells_at z2]; rfl
              have g1 := cells_free yV 1
              have g2 := cells_free z1 2
              have g3 := cells_free z2 3
              have m0 : U.cell? ⟨wr.heap.size, 0, none⟩ = some (.string f.name) := by rw [cells_at z3]; rfl
              have m1 : U.cell? ⟨wr.heap.size, 1, none⟩ = some (.int .i64 f.size) := by rw [cells_at z3]; rfl
              have m2 : U.cell? ⟨wr.heap.size, 2, none⟩ = some (.int .i64 f.count) := by rw [cells_at z3]; rfl
              have m3 : U.cell? ⟨wr.heap.size, 3, none⟩ = some (.int .u32 f.sum) := by rw [cells_at z3]; rfl
              have gU : Gr wr U := by rw [← hU]; exact Below.setCell (Below.setCell (Below.setCell gV (Nat.le_refl _) _) (Nat.le_refl _) _) (Nat.le_refl _) _
              have hbw : w.heap.size + 1 < wr.heap.size := lt_of_block hb
              have kB : U.cell? ⟨w.heap.size + 1, 2, none⟩ = some v2 := by rw [cells_at ((gU.block _ hbw).trans hb)]; rfl
              have hwr : IntKind.u32.wrap f.sum = f.sum := IntWalk.u32_in _ ⟨hF.2.2.2.1, by have := hF.2.2.2.2; omega⟩
              have hownU := ownsRow_gr hown gU
              rw [hl] at hownU
              have hszU := gU.size
              have WT := Lib.hid (fun (v' : Value) (w2 : World) (o2 : w2.ownsRow (w.heap.size + 1 + 1) 85 4 v' (i + 1) (fls L ++ flc f)) (gr : (U.alloc (.cells #[.string f.name, .int .i64 f.size, .int .i64 f.count, .int .u32 f.sum] 85)).grownBy w2 v2.ownBlock) => wt_app (x := f) hb hown ho HZ.out (gU.trans (gr19 U _)) (by rw [hl]; exact o2) gr)
              have NX := Lib.hid (show ∀ (v' : Value) (u : World), u.heap[w.heap.size + 1]? = some (.cells #[.int .i64 (getN s 4 2), .int .i64 (getN s 6 2), v'] 36 (0, 0)) → u.ownsRow (w.heap.size + 1 + 1) 85 4 v' (L ++ [f]).length (fls (L ++ [f])) → Only (fun b => b = w.heap.size + 1) W u → GfAt s (w.heap.size + 1) W (.int .i64 ((p : Int) + 1 + (n : Int) + 13)) (.int .i64 ((i : Int) + 1)) u from fun v' u a1 a2 a3 => ⟨i + 1, p + 1 + n + 13, L ++ [f], v', GS.out, rfl, rfl, a1, a2, a3⟩)
              have hbI : (i + 1) * 40 ≤ 140737488355328 ∧ i + 1 ≤ maxLen := ⟨by omega, by unfold maxLen; omega⟩
              have HU := Lib.hid hU
              have hzW : w.heap.size + 1 + 1 ≤ wr.heap.size := by have := HZ.out; omega
              clear hgt hb ho R1 R2 R3 R4 c3 kC0 kC1 kC2 kf0 kf1 kf2 hw0 G0 hl hi17 hps hsz hn256 hn hok c1 c2 Z GN s1 s2 s3 t1 t2 hf e0 e1 e2 e3 hF hV gV yV hok8 hwz hown gU z1 z2 z3 GS GN2 i2 i3 i4
              go_wp2_with fail
              refine HR1.out.mono ?_; rintro e u ⟨rfl, rfl⟩
              clear HR1 i8
              go_wp2_with fail
              rw [← HV.out]
              refine HR2.out.mono ?_; rintro e u ⟨rfl, rfl⟩
              clear HR2
              go_wp2_with fail
              refine HR3.out.mono ?_; rintro e u ⟨rfl, rfl⟩
              clear HR3
              go_wp2_with fail
              refine (HR4.out _).mono ?_; rintro e u ⟨rfl, rfl⟩
              clear HR4
              go_wp2_with (first
                | (at_builtin; refine wpList_append_own_at _ rfl _ _ 34 rfl (w.heap.size + 1 + 1) 85 i0 (.agg #[.string ⟨#[]⟩, .int .i64 0, .int .i64 0, .int .u32 0]) 4 40 Tryz.underlying34 hi hz0 hz1 hz2 rfl (by decide) _ _ _ rfl (hownU.alloc _) ⟨U.heap.size, 0, none⟩ 1 1 (flc f) rfl ?c0 ?c1 ?c2 ?c3 ?c4 ?c5 ?_)
                | go_in)
              case c0 => rfl
              case c1 =>
                intro jj z hjz
                rw [add_lit19, World.cell?_alloc_new, List.getElem?_toArray, Nat.zero_add]
                exact hjz
              case c2 => exact flc_one f
              case c3 => exact hbI.2
              case c4 => exact hbI.1
              case c5 => simp only [World.size_alloc]; omega
              intro X' w2 hown2 hgrow _ hat
              obtain ⟨gb, cap, rfl, _, _⟩ := hown2.form (by omega)
              obtain ⟨⟨y1, y2, _, _⟩, hb', hown', ho'⟩ := WT.out _ w2 hown2 hgrow
              have N2 := Lib.hid (NX.out _ _ hb' hown' ho')
              clear hown2 hgrow hat hb' hown' ho' hownU m0 m1 m2 m3 kB
              go_wp2_with fail
              go_roundw
              case rel => exact N2.out
              case measure => simp [intOf]; omega
          · have GN2 := Lib.hid (GN.out (.inr ⟨n, hn, .inl (by omega)⟩))
            have c3I : (s.size : Int) < (p : Int) + 1 + (n : Int) + 13 := by omega
            clear hgt hown ho hb hl hi17 hps hsz hn256 hn c1 c2 hw0 G0
            go_wp2_with fail
            refine R1.mono ?_; rintro e u ⟨rfl, rfl⟩
            go_wp2_with fail
            exact bodyPost_ret (mn_results2 rfl rfl rfl Z.out.1) rfl ⟨.inr ⟨GN2.out, rfl⟩, Z.out.2⟩
      · have hE := Lib.hid (fun m (hm : mnIs s m) => gt_end hgt h8 (by rw [HB.out]; exact fun k => c2 k.2) hm)
        have c2I : ¬ (i : Int) < 17 := by omega
        clear c1
        have hli := liesFl_own hown
        have hK := hgt.2.2.2.1
        obtain ⟨a2, c2', e2, _⟩ := id hli
        rw [e2] at hb hli
        have kB0 : wr.cell? ⟨w.heap.size + 1, 0, none⟩ = some (.int .i64 (getN s 4 2)) := by rw [cells_at hb]; rfl
        have kB1 : wr.cell? ⟨w.heap.size + 1, 1, none⟩ = some (.int .i64 (getN s 6 2)) := by rw [cells_at hb]; rfl
        have kB2 : wr.cell? ⟨w.heap.size + 1, 2, none⟩ = some (.slice a2 L.length c2') := by rw [cells_at hb]; rfl
        have hown3 := hown
        rw [e2] at hown3
        have AG := Lib.hid (fun (u : World) (g : Gr wr u) => (⟨(Below.block g _ (lt_of_block hw0)).trans hw0, G0.trans g, by rw [cells_at ((Below.block g _ (lt_of_block hb)).trans hb)]; rfl, by rw [cells_at ((Below.block g _ (lt_of_block hb)).trans hb)]; rfl, by rw [cells_at ((Below.block g _ (lt_of_block hb)).trans hb)]; rfl, hli.gr g⟩ : u.heap[w.heap.size]? = some (.cells #[.int .i64 0, .int .i64 0, .slice none 0 0] 36 (0, 0)) ∧ Gr w u ∧ u.cell? ⟨w.heap.size + 1, 0, none⟩ = some (.int .i64 (getN s 4 2)) ∧ u.cell? ⟨w.heap.size + 1, 1, none⟩ = some (.int .i64 (getN s 6 2)) ∧ u.cell? ⟨w.heap.size + 1, 2, none⟩ = some (.slice a2 L.length c2') ∧ LiesFl u (.slice a2 L.length c2') L))
        have FR := Lib.hid (show ∀ b' n' c', Value.slice a2 L.length c2' = .slice (some b') n' c' → w.heap.size < b'.block from fun b' n' c' e => by
          have := (hown3.lt b'.block (by rw [e]; rfl)).1
          omega)
        obtain ⟨st, hst⟩ : ∃ st, getN s 4 2 = st := ⟨_, rfl⟩
        obtain ⟨ps, hps2⟩ : ∃ ps, getN s 6 2 = ps := ⟨_, rfl⟩
        rw [hst, hps2] at hE AG
        rw [hst] at kB0
        rw [hps2] at kB1
        have hLl : L.length ≤ maxLen := by unfold maxLen; omega
        have hst64 : I64 st := by rw [← hst]; exact get_i64
        have hps64 : I64 ps := by rw [← hps2]; exact get_i64
        have HK := Lib.hid hK
        rw [hst, hps2]
        cases hm : mnB ⟨st, ps, L⟩ with
        | false =>
          have HN := Lib.hid (show ∀ m, ¬ mnIs s m from fun m k => by
            have h1 := k.1
            rw [hE.out m k, hm] at h1
            cases h1)
          have PN := Lib.hid (rput19_no ⟨st, ps, L⟩ wr hli hLl hK hst64 hps64 hm)
          clear hgt hown hown3 ho hb hl hi17 hps hsz hw0 G0 hli hK hLl hst64 hps64 hm hst hps2 e2 Z kC0 kC1 kC2 kf0 kf1 kf2
          go_wp2_with fail
          refine PN.out.mono ?_; rintro e u ⟨rfl, g⟩
          obtain ⟨x, gu, d0, d1, d2, _⟩ := AG.out u g
          have kC0 : u.cell? ⟨w.heap.size, 0, none⟩ = some (.int .i64 0) := by rw [cells_at x]; rfl
          have kC1 : u.cell? ⟨w.heap.size, 1, none⟩ = some (.int .i64 0) := by rw [cells_at x]; rfl
          have kC2 : u.cell? ⟨w.heap.size, 2, none⟩ = some (.slice none 0 0) := by rw [cells_at x]; rfl
          have kf0 := cells_free x 0
          have kf1 := cells_free x 1
          have kf2 := cells_free x 2
          have Z2 := Lib.hid (wt_zero (Nat.le_refl _) gu x (.int .i64 0) (.int .i64 0) (.slice none 0 0))
          clear x gu d0 d1 d2 g
          go_wp2_with fail
          exact bodyPost_ret (mn_results2 rfl rfl rfl Z2.out.1) rfl ⟨.inr ⟨HN.out, rfl⟩, Z2.out.2⟩
        | true =>
          have PY := Lib.hid (rput19_yes ⟨st, ps, L⟩ wr hli hK hm)
          obtain ⟨q, hq⟩ : ∃ q, mnS ⟨st, ps, L⟩ = q := ⟨_, rfl⟩
          rw [hq] at PY
          by_cases hqs : q = s
          · have HY := Lib.hid (show mnIs s ⟨st, ps, L⟩ from ⟨hm, fun f hf => ⟨(hK f hf).2.2.2.1, (hK f hf).2.2.2.2⟩, hq.trans hqs⟩)
            have qb : (q.toList == s.toList) = true := by rw [hqs]; simp
            clear hgt hown hown3 ho hb hl hi17 hps hsz hw0 G0 hli hK hLl hst64 hps64 hm hst hps2 e2 Z kC0 kC1 kC2 kf0 kf1 kf2 hq hqs
            go_wp2_with fail
            refine PY.out.mono ?_; rintro e u ⟨rfl, g⟩
            obtain ⟨x, gu, d0, d1, d2, dl⟩ := AG.out u g
            have kC0 : u.cell? ⟨w.heap.size, 0, none⟩ = some (.int .i64 0) := by rw [cells_at x]; rfl
            have kC1 : u.cell? ⟨w.heap.size, 1, none⟩ = some (.int .i64 0) := by rw [cells_at x]; rfl
            have kC2 : u.cell? ⟨w.heap.size, 2, none⟩ = some (.slice none 0 0) := by rw [cells_at x]; rfl
            have kf0 := cells_free x 0
            have kf1 := cells_free x 1
            have kf2 := cells_free x 2
            obtain ⟨r1, r2⟩ := mn_store2 x rfl (.int .i64 st) (.int .i64 ps) (.slice a2 L.length c2')
            have R1 := Lib.hid r1
            have R2 := Lib.hid (show LiesFl _ (.slice a2 L.length c2') L ∧ Gr w _ from ⟨dl.stay r2 fun b' n' c' e => Nat.ne_of_gt (FR.out b' n' c' e), Below.trans gu (r2.toBelow (n := w.heap.size) gu.size fun i e => by omega)⟩)
            clear x gu g dl r1 r2
            go_wp2_with fail
            exact bodyPost_ret (mn_results2 rfl rfl rfl R1.out) rfl ⟨.inl ⟨⟨st, ps, L⟩, _, HY.out, rfl, R2.out.1, HK.out, fun b' n' c' e => Nat.le_of_lt (FR.out b' n' c' e)⟩, R2.out.2⟩
          · have HN := Lib.hid (show ∀ m, ¬ mnIs s m from fun m k => by
              have h1 := k.2.2
              rw [hE.out m k, hq] at h1
              exact hqs h1)
            have qb : (q.toList == s.toList) = false := by rw [eq_list]; exact decide_eq_false hqs
            clear hgt hown hown3 ho hb hl hi17 hps hsz hw0 G0 hli hK hLl hst64 hps64 hm hst hps2 e2 Z kC0 kC1 kC2 kf0 kf1 kf2 hq hqs
            go_wp2_with fail
            refine PY.out.mono ?_; rintro e u ⟨rfl, g⟩
            obtain ⟨x, gu, d0, d1, d2, _⟩ := AG.out u g
            have kC0 : u.cell? ⟨w.heap.size, 0, none⟩ = some (.int .i64 0) := by rw [cells_at x]; rfl
            have kC1 : u.cell? ⟨w.heap.size, 1, none⟩ = some (.int .i64 0) := by rw [cells_at x]; rfl
            have kC2 : u.cell? ⟨w.heap.size, 2, none⟩ = some (.slice none 0 0) := by rw [cells_at x]; rfl
            have kf0 := cells_free x 0
            have kf1 := cells_free x 1
            have kf2 := cells_free x 2
            have Z2 := Lib.hid (wt_zero (Nat.le_refl _) gu x (.int .i64 0) (.int .i64 0) (.slice none 0 0))
            clear x gu d0 d1 d2 g
            go_wp2_with fail
            exact bodyPost_ret (mn_results2 rfl rfl rfl Z2.out.1) rfl ⟨.inr ⟨HN.out, rfl⟩, Z2.out.2⟩
    · have hE := Lib.hid (fun m (hm : mnIs s m) => gt_end hgt h8 (by rw [HB.out]; exact fun k => c1 k.1) hm)
      have c1I : ¬ (i : Int) < (b8 : Int) := by omega
      have hli := liesFl_own hown
      have hK := hgt.2.2.2.1
      obtain ⟨a2, c2', e2, _⟩ := id hli
      rw [e2] at hb hli
      have kB0 : wr.cell? ⟨w.heap.size + 1, 0, none⟩ = some (.int .i64 (getN s 4 2)) := by rw [cells_at hb]; rfl
      have kB1 : wr.cell? ⟨w.heap.size + 1, 1, none⟩ = some (.int .i64 (getN s 6 2)) := by rw [cells_at hb]; rfl
      have kB2 : wr.cell? ⟨w.heap.size + 1, 2, none⟩ = some (.slice a2 L.length c2') := by rw [cells_at hb]; rfl
      have hown3 := hown
      rw [e2] at hown3
      have AG := Lib.hid (fun (u : World) (g : Gr wr u) => (⟨(Below.block g _ (lt_of_block hw0)).trans hw0, G0.trans g, by rw [cells_at ((Below.block g _ (lt_of_block hb)).trans hb)]; rfl, by rw [cells_at ((Below.block g _ (lt_of_block hb)).trans hb)]; rfl, by rw [cells_at ((Below.block g _ (lt_of_block hb)).trans hb)]; rfl, hli.gr g⟩ : u.heap[w.heap.size]? = some (.cells #[.int .i64 0, .int .i64 0, .slice none 0 0] 36 (0, 0)) ∧ Gr w u ∧ u.cell? ⟨w.heap.size + 1, 0, none⟩ = some (.int .i64 (getN s 4 2)) ∧ u.cell? ⟨w.heap.size + 1, 1, none⟩ = some (.int .i64 (getN s 6 2)) ∧ u.cell? ⟨w.heap.size + 1, 2, none⟩ = some (.slice a2 L.length c2') ∧ LiesFl u (.slice a2 L.length c2') L))
      have FR := Lib.hid (show ∀ b' n' c', Value.slice a2 L.length c2' = .slice (some b') n' c' → w.heap.size < b'.block from fun b' n' c' e => by
        have := (hown3.lt b'.block (by rw [e]; rfl)).1
        omega)
      obtain ⟨st, hst⟩ : ∃ st, getN s 4 2 = st := ⟨_, rfl⟩
      obtain ⟨ps, hps2⟩ : ∃ ps, getN s 6 2 = ps := ⟨_, rfl⟩
      rw [hst, hps2] at hE AG
      rw [hst] at kB0
      rw [hps2] at kB1
      have hLl : L.length ≤ maxLen := by unfold maxLen; omega
      have hst64 : I64 st := by rw [← hst]; exact get_i64
      have hps64 : I64 ps := by rw [← hps2]; exact get_i64
      have HK := Lib.hid hK
      rw [hst, hps2]
      cases hm : mnB ⟨st, ps, L⟩ with
      | false =>
        have HN := Lib.hid (show ∀ m, ¬ mnIs s m from fun m k => by
          have h1 := k.1
          rw [hE.out m k, hm] at h1
          cases h1)
        have PN := Lib.hid (rput19_no ⟨st, ps, L⟩ wr hli hLl hK hst64 hps64 hm)
        clear hgt hown hown3 ho hb hl hi17 hps hsz hw0 G0 hli hK hLl hst64 hps64 hm hst hps2 e2 Z kC0 kC1 kC2 kf0 kf1 kf2
        go_wp2_with fail
        refine PN.out.mono ?_; rintro e u ⟨rfl, g⟩
        obtain ⟨x, gu, d0, d1, d2, _⟩ := AG.out u g
        have kC0 : u.cell? ⟨w.heap.size, 0, none⟩ = some (.int .i64 0) := by rw [cells_at x]; rfl
        have kC1 : u.cell? ⟨w.heap.size, 1, none⟩ = some (.int .i64 0) := by rw [cells_at x]; rfl
        have kC2 : u.cell? ⟨w.heap.size, 2, none⟩ = some (.slice none 0 0) := by rw [cells_at x]; rfl
        have kf0 := cells_free x 0
        have kf1 := cells_free x 1
        have kf2 := cells_free x 2
        have Z2 := Lib.hid (wt_zero (Nat.le_refl _) gu x (.int .i64 0) (.int .i64 0) (.slice none 0 0))
        clear x gu d0 d1 d2 g
        go_wp2_with fail
        exact bodyPost_ret (mn_results2 rfl rfl rfl Z2.out.1) rfl ⟨.inr ⟨HN.out, rfl⟩, Z2.out.2⟩
      | true =>
        have PY := Lib.hid (rput19_yes ⟨st, ps, L⟩ wr hli hK hm)
        obtain ⟨q, hq⟩ : ∃ q, mnS ⟨st, ps, L⟩ = q := ⟨_, rfl⟩
        rw [hq] at PY
        by_cases hqs : q = s
        · have HY := Lib.hid (show mnIs s ⟨st, ps, L⟩ from ⟨hm, fun f hf => ⟨(hK f hf).2.2.2.1, (hK f hf).2.2.2.2⟩, hq.trans hqs⟩)
          have qb : (q.toList == s.toList) = true := by rw [hqs]; simp
          clear hgt hown hown3 ho hb hl hi17 hps hsz hw0 G0 hli hK hLl hst64 hps64 hm hst hps2 e2 Z kC0 kC1 kC2 kf0 kf1 kf2 hq hqs
          go_wp2_with fail
          refine PY.out.mono ?_; rintro e u ⟨rfl, g⟩
          obtain ⟨x, gu, d0, d1, d2, dl⟩ := AG.out u g
          have kC0 : u.cell? ⟨w.heap.size, 0, none⟩ = some (.int .i64 0) := by rw [cells_at x]; rfl
          have kC1 : u.cell? ⟨w.heap.size, 1, none⟩ = some (.int .i64 0) := by rw [cells_at x]; rfl
          have kC2 : u.cell? ⟨w.heap.size, 2, none⟩ = some (.slice none 0 0) := by rw [cells_at x]; rfl
          have kf0 := cells_free x 0
          have kf1 := cells_free x 1
          have kf2 := cells_free x 2
          obtain ⟨r1, r2⟩ := mn_store2 x rfl (.int .i64 st) (.int .i64 ps) (.slice a2 L.length c2')
          have R1 := Lib.hid r1
          have R2 := Lib.hid (show LiesFl _ (.slice a2 L.length c2') L ∧ Gr w _ from ⟨dl.stay r2 fun b' n' c' e => Nat.ne_of_gt (FR.out b' n' c' e), Below.trans gu (r2.toBelow (n := w.heap.size) gu.size fun i e => by omega)⟩)
          clear x gu g dl r1 r2
          go_wp2_with fail
          exact bodyPost_ret (mn_results2 rfl rfl rfl R1.out) rfl ⟨.inl ⟨⟨st, ps, L⟩, _, HY.out, rfl, R2.out.1, HK.out, fun b' n' c' e => Nat.le_of_lt (FR.out b' n' c' e)⟩, R2.out.2⟩
        · have HN := Lib.hid (show ∀ m, ¬ mnIs s m from fun m k => by
            have h1 := k.2.2
            rw [hE.out m k, hq] at h1
            exact hqs h1)
          have qb : (q.toList == s.toList) = false := by rw [eq_list]; exact decide_eq_false hqs
          clear hgt hown hown3 ho hb hl hi17 hps hsz hw0 G0 hli hK hLl hst64 hps64 hm hst hps2 e2 Z kC0 kC1 kC2 kf0 kf1 kf2 hq hqs
          go_wp2_with fail
          refine PY.out.mono ?_; rintro e u ⟨rfl, g⟩
          obtain ⟨x, gu, d0, d1, d2, _⟩ := AG.out u g
          have kC0 : u.cell? ⟨w.heap.size, 0, none⟩ = some (.int .i64 0) := by rw [cells_at x]; rfl
          have kC1 : u.cell? ⟨w.heap.size, 1, none⟩ = some (.int .i64 0) := by rw [cells_at x]; rfl
          have kC2 : u.cell? ⟨w.heap.size, 2, none⟩ = some (.slice none 0 0) := by rw [cells_at x]; rfl
          have kf0 := cells_free x 0
          have kf1 := cells_free x 1
          have kf2 := cells_free x 2
          have Z2 := Lib.hid (wt_zero (Nat.le_refl _) gu x (.int .i64 0) (.int .i64 0) (.slice none 0 0))
          clear x gu d0 d1 d2 g
          go_wp2_with fail
          exact bodyPost_ret (mn_results2 rfl rfl rfl Z2.out.1) rfl ⟨.inr ⟨HN.out, rfl⟩, Z2.out.2⟩
end Go.Proofs.YtckmciafonnohaaGreat
