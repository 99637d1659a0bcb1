/- In one text: MgLaw, MgJoin, FsList. -/
import Derived.Test.YtpmglnghnelenaaGreatP42
import Derived.Test.YtpmglnghnelenaaGreatP44
import Derived.Test.YtpmglnghnelenaaGreatP43
import Derived.Test.YtpmglnghnelenaaGreatP38
import Derived.Test.YtpmglnghnelenaaGreatP12
import Derived.Test.YtpmglnghnelenaaGreatP09
import Derived.Test.YtpmglnghnelenaaGreatP13
import Derived.Test.YtpmglnghnelenaaGreatP11
import Derived.Test.YtpmglnghnelenaaGreatP00
/- The law's own helpers: whether lists are few, a disk with their files, a look at a file. -/
namespace Go.Proofs.YtpmglnghnelenaaGreat
open Go.RowKit FsPlain CrcPlain OctPlain FramePlain RecPlain RdPlain RnPlain WrPlain
set_option linter.unusedVariables false
set_option linter.unusedSimpArgs false
set_option maxRecDepth 20000
/-- Few lists, of few records of a size. -/
def listsB (n : Int) (X : List (List ByteArray)) : Bool := (X.take 10).all (fun l => few6 l 12 && layB n l) && decide (X.length ≤ 10)
theorem listsB_yes {n : Int} {X : List (List ByteArray)} (h : listsB n X = true) : X.length ≤ 10 ∧ ∀ l ∈ X, l.length ≤ 12 ∧ (∀ s ∈ l, s.size ≤ 80) ∧ layB n l = true := by
  unfold listsB at h
  rw [Bool.and_eq_true, decide_eq_true_iff] at h
  refine ⟨h.2, fun l hl => ?_⟩
  rw [List.take_of_length_le h.2, List.all_eq_true] at h
  have := h.1 l hl
  rw [Bool.and_eq_true] at this
  obtain ⟨h1, h2⟩ := few6_yes this.1
  exact ⟨h1, h2, this.2⟩
def LstAt17 (n : Int) (X : List (List ByteArray)) (w : World) (i : Value) (wr : World) : Prop :=
  ∃ j : Nat, j ≤ 10 ∧ j ≤ X.length ∧ i = .int .i64 (j : Int) ∧ Gr w wr ∧ (X.take j).all (fun l => few6 l 12 && layB n l) = true
set_option maxHeartbeats 2000000 in
theorem lists17_c {w : World} {v : Value} {X : List (List ByteArray)} (h : LiesSS w v X) (n : Int) (hn : I64 n) (hX : X.length ≤ 9223372036854775807) (hl : ∀ l ∈ X, l.length ≤ 9223372036854775807) :
    Calls Tryz.prog 4 #[v, .int .i64 n, .int .i64 10] w fun e w' => e = .returned (.bool (listsB n X)) ∧ Gr w w' := by
  have HS := Lib.hid (fun u (g : Gr w u) => h.gr g)
  obtain ⟨a, c, rfl, hc, _⟩ := h
  have HL := Lib.hid hl
  obtain ⟨m, hm⟩ : ∃ m, X.length = m := ⟨_, rfl⟩
  have HN := Lib.hid hm
  rw [hm] at hX HS ⊢
  have hXI : (m : Int) ≤ 9223372036854775807 := by omega
  have LY := Lib.hid (fun (u : World) (x : Value) (l : List ByteArray) (k : Lies u x l) (hl : l.length ≤ 3000) (hz : ∀ s ∈ l, s.size ≤ 1000) => rlay_c k n hn hl hz)
  clear hm hc hl hn hX
  go_enter Tryz.func4, Tryz.ntmps4
  go_wp2_with fail
  go_loopw [7] (fun i wr => LstAt17 n X w i wr) (fun i _ => 11 - (intOf i).toNat)
  case atStart => exact ⟨0, Nat.zero_le _, Nat.zero_le _, rfl, Gr.refl _, rfl⟩
  case round =>
    obtain ⟨j, hj10, hj, rfl, g, hall⟩ := hrel
    have hln := HN.out
    rw [hln] at hj
    by_cases hlt : j < m
    · have d1 : (j : Int) < (m : Int) := by omega
      by_cases h10 : j < 10
      · have d2 : (j : Int) < 10 := by omega
        obtain ⟨x, hx, hstep, hmem⟩ := takeX (X := X) (j := j) (by omega)
        obtain ⟨a', c', b, off, xv, he, ha, hb, hcx, hlies⟩ := liesSS_at (HS.out wr g) hx
        simp only [Value.slice.injEq] at he
        obtain ⟨rfl, -, rfl⟩ := he
        subst ha
        have CF := Lib.hid (few6_c hlies 12 (by decide) (HL.out x hmem))
        have HLI := Lib.hid hlies
        have G := Lib.hid g
        obtain ⟨xa, xc, rfl, _⟩ := hlies
        have no : (few6 x 12 && layB n x) = false → listsB n X = false := fun h => by
          unfold listsB
          rw [Bool.and_eq_false_iff]
          by_cases hl : X.length ≤ 10
          · left
            rw [List.take_of_length_le hl, List.all_eq_false]
            exact ⟨x, hmem, by rw [h]; decide⟩
          · right; exact decide_eq_false hl
        cases hf : few6 x 12
        · have HX := Lib.hid (no (by rw [hf]; rfl))
          rw [hf] at CF
          clear no hx hstep hmem hall hf g
          go_wp2_with fail
          refine CF.out.mono ?_; rintro e u ⟨rfl, rfl⟩
          go_wp2_with fail
          go_ret
          exact ⟨ret_b16 HX.out.symm, G.out⟩
        · obtain ⟨h12, h80⟩ := few6_yes hf
          have CL := Lib.hid (LY.out wr _ x HLI.out (by omega) (fun s hs => by have := h80 s hs; omega))
          rw [hf] at CF
          cases hy : layB n x
          · have HX := Lib.hid (no (by rw [hy, Bool.and_false]))
            rw [hy] at CL
            clear no hx hstep hmem hall hf g h12 h80 hy
            go_wp2_with fail
            refine CF.out.mono ?_; rintro e u ⟨rfl, rfl⟩
            go_wp2_with fail
            refine CL.out.mono ?_; rintro e u ⟨rfl, g1⟩
            go_wp2_with fail
            go_ret
            exact ⟨ret_b16 HX.out.symm, G.out.trans g1⟩
          · have HX := Lib.hid (show (X.take (j + 1)).all (fun l => few6 l 12 && layB n l) = true by rw [hstep, List.all_append, hall]; simp [hf, hy])
            rw [hy] at CL
            clear no hx hstep hmem hall hf g h12 h80 hy
            go_wp2_with fail
            refine CF.out.mono ?_; rintro e u ⟨rfl, rfl⟩
            go_wp2_with fail
            refine CL.out.mono ?_; rintro e u ⟨rfl, g1⟩
            have G2 := Lib.hid (G.out.trans g1)
            clear g1
            go_wp2_with fail
            refine ⟨⟨j + 1, by omega, by have := HN.out; omega, rfl, G2.out, HX.out⟩, ?_⟩
            simp [intOf]; omega
      · obtain rfl : j = 10 := by omega
        have HX := Lib.hid (show listsB n X = false by unfold listsB; rw [decide_eq_false (by omega), Bool.and_false])
        have d2 : ¬ (m : Int) ≤ 10 := by omega
        have G := Lib.hid g
        clear hall g
        go_wp2_with fail
        go_ret
        exact ⟨ret_b16 HX.out.symm, G.out⟩
    · obtain rfl : j = m := by omega
      have HX := Lib.hid (show listsB n X = true by unfold listsB; rw [decide_eq_true (by omega), Bool.and_true, List.take_of_length_le (by omega)]; rw [List.take_of_length_le (by omega)] at hall; exact hall)
      have d2 : (j : Int) ≤ 10 := by omega
      have G := Lib.hid g
      clear hall g
      go_wp2_with fail
      go_ret
      exact ⟨ret_b16 HX.out.symm, G.out⟩
theorem lay_small {n : Int} {x : List ByteArray} (hB : layB n x = true) (h : x.length ≤ 12) : (layR n x).size ≤ 1000 := by
  have hs := hB
  unfold layB at hs
  rw [Bool.and_eq_true] at hs
  have h1 : 1 ≤ n ∧ n ≤ 64 := by simpa [sizeB] using hs.1
  have h2 := lay_size hB
  have h3 : (x.length : Int) * n ≤ 12 * 64 := Int.mul_le_mul (by omega) h1.2 (by omega) (by omega)
  omega
/-- The files' names. -/
def nmsX (j : Nat) : List ByteArray := (List.range j).map fun (i : Nat) => nameN nmX (i : Int)
theorem nmsX_succ (j : Nat) : nmsX (j + 1) = nmsX j ++ [nameN nmX (j : Int)] := by unfold nmsX; rw [List.range_succ, List.map_append]; rfl
theorem nmsX_len (j : Nat) : (nmsX j).length = j := by unfold nmsX; simp
/-- The loop of disk. -/
def DskAt (n : Int) (X : List (List ByteArray)) (p : Nat) (w : World) (v i : Value) (wr : World) : Prop :=
  ∃ (j : Nat) (s : St) (B' : Nat → Prop), j ≤ X.length ∧ i = .int .i64 (j : Int) ∧ Dk n X j s ∧ stars [DiskA p s, RowA v (nmsX j)] wr B' ∧ Nx (fun _ => False) w B' wr
def Made17 (n : Int) (X : List (List ByteArray)) (w : World) (e : Ending) (w' : World) : Prop :=
  ∃ p v s B, e = .returned (.tuple #[.pointer (some ⟨p, 0, none⟩), v, .bool true]) ∧ Dk n X X.length s ∧ stars [DiskA p s, RowA v (nmsX X.length)] w' B ∧ Nx (fun _ => False) w B w'
theorem dk_fresh (n : Int) (X : List (List ByteArray)) : Dk n X 0 (fresh 1048576) :=
  ⟨fresh_ok (by decide) (by decide), ⟨rfl, rfl⟩, rfl, rfl, rfl, Nat.zero_le _, fun i l hi => by omega, fun _ _ => rfl⟩
set_option maxHeartbeats 4000000 in
theorem disk17_c {w : World} {v : Value} {X : List (List ByteArray)} (h : LiesSS w v X) (n : Int) (hn : I64 n) (hX : X.length ≤ 10) (hl : ∀ l ∈ X, l.length ≤ 12 ∧ (∀ s ∈ l, s.size ≤ 80) ∧ layB n l = true) :
    Calls Tryz.prog 6 #[v, .int .i64 n] w (Made17 n X w) := by
  obtain ⟨i0, hi', hz0, hz1, hz2⟩ := info_parts infoS
  have CN := Lib.hid (new_c 1048576 (by decide) (by decide) w)
  have HS := Lib.hid (fun u (g : Gr w u) => h.gr g)
  obtain ⟨a, c, rfl, hc, _⟩ := h
  have HL := Lib.hid hl
  obtain ⟨m, hm⟩ : ∃ m, X.length = m := ⟨_, rfl⟩
  have HN := Lib.hid hm
  rw [hm] at HS hX ⊢
  have HI := Lib.hid hn
  clear hm hc hl hn
  go_enter Tryz.func6, Tryz.ntmps6
  go_wp2_with fail
  refine CN.out.mono ?_; rintro e u ⟨p, B, rfl, hd, g, hnw⟩
  have START := Lib.hid (show DskAt n X p w (.slice none 0 0) (.int .i64 0) u by
    obtain ⟨B2, k2, n2⟩ := part_new (P := RowA (.slice none 0 0) []) (L := [DiskA p (fresh 1048576)]) ⟨fr_disk _ _, trivial⟩ (stars_one hd) (Gr.refl u) (row_nil u) (fun b hb => hb.elim)
    exact ⟨0, _, B2, Nat.zero_le _, rfl, dk_fresh n X, stars_perm (List.Perm.swap _ _ _) k2, (show Nx (fun _ => False) w B u from ⟨Only.ofGr g, fun b hb => .inr (hnw b hb)⟩).trans n2⟩)
  clear hd g hnw CN
  go_wp2_with fail
  go_loopw [9, 10] (fun v i wr => DskAt n X p w v i wr) (fun _ i _ => m - (intOf i).toNat)
  case atStart => exact START.out
  case round =>
    obtain ⟨j, s, B', hj, rfl, hD, hst, nx⟩ := hrel
    have hln := HN.out
    rw [hln] at hj
    obtain ⟨_, hrw, _⟩ := part_at 1 rfl hst
    obtain ⟨sa, cs, rfl, _⟩ := rowE_shape hrw
    rw [nmsX_len] at *
    by_cases hlt : j < m
    · obtain ⟨x, hx, hstep, hmem⟩ := takeX (X := X) (j := j) (by omega)
      obtain ⟨h12, h80, hB⟩ := HL.out x hmem
      have hsm := lay_small hB h12
      obtain ⟨k1, k2, k3⟩ := hD.step (by omega) hx hsm
      obtain ⟨nr, nz, _⟩ := name_x (i := j) (by omega)
      have RN := Lib.hid (fun u => rname16_c nmX (j : Int) (by omega) (by decide) u)
      have K3 := Lib.hid k3
      have hcalls := hD.calls
      obtain ⟨nm, hnm⟩ : ∃ nm, nameN nmX (j : Int) = nm := ⟨_, rfl⟩
      rw [hnm] at RN k1 k2 K3 nr nz
      have HNM := Lib.hid hnm
      have CC := Lib.hid (fun (u : World) (B : Nat → Prop) (k : DiskA p s u B) => d_create p s nm (by omega) nr (by omega) u B k)
      rw [k1] at CC
      have hc2 : (createR s nm.data.toList).1.calls ≤ s.calls + 1 := by
        obtain ⟨_, _, _, _, _, _, _, k, _⟩ := create_calm (n := nm.data.toList) hD.ok hD.calm (hD.none _ fun i hi e => by rw [← hnm] at e; have := nameX_inj e; omega) (by rw [show nm.data.toList.length = nm.size from Array.length_toList]; exact nz) (by rw [hD.len]; omega)
        omega
      obtain ⟨C3, hC3⟩ : ∃ C3, layR n x = C3 := ⟨_, rfl⟩
      have CA := Lib.hid (fun (u : World) (B : Nat → Prop) (k : DiskA p (createR s nm.data.toList).1 u B) => d_append p (createR s nm.data.toList).1 nm C3 (by omega) nr (by omega) (by rw [← hC3]; omega) u B k)
      rw [hC3] at k2 K3 hsm
      rw [k2] at CA
      have MU := Lib.hid (fun (u : World) (xv : Value) (k : Lies u xv x) => must6_c k n HI.out (by omega) (fun s hs => by have := h80 s hs; omega))
      rw [hC3] at MU
      obtain ⟨s1, hs1⟩ : ∃ s1, (createR s nm.data.toList).1 = s1 := ⟨_, rfl⟩
      rw [hs1] at CC CA K3
      obtain ⟨s2, hs2⟩ : ∃ s2, (appendR s1 nm.data.toList C3.data.toList).1 = s2 := ⟨_, rfl⟩
      rw [hs2] at CA K3
      have HST := Lib.hid hst
      have NX := Lib.hid nx
      have HSX := Lib.hid hx
      clear k1 k2 k3 hst nx hD hnm hc2 hC3 hs1 hs2 hcalls START hx hstep hmem hB nr nz hrw
      go_wp2_with fail
      refine (RN.out _).mono ?_; rintro e u1 ⟨rfl, g1⟩
      have FM : Frs [DiskA p s, RowA (.slice sa j cs) (nmsX j)] := ⟨fr_disk _ _, fr_row _ _, trivial⟩
      have HST1 := Lib.hid (stars_gr FM HST.out g1)
      have NX1 := Lib.hid (NX.out.trans (Nx.gr g1 (B := B')))
      clear g1
      obtain ⟨_, hr1, _⟩ := part_at 1 rfl HST1.out
      have RW := Lib.hid hr1.1
      clear hr1
      go_wp2_with (at_builtin; refine wpList_append_own_at _ rfl _ _ 26 rfl 0 9 i0 (.string ⟨#[]⟩) 1 16 Tryz.underlying26 hi' hz0 hz1 hz2 rfl (by decide) (.slice sa j cs) j (strs (nmsX j)) rfl (by have := RW.out; rw [nmsX_len] at this; exact this.alloc _) ⟨u1.heap.size, 0, none⟩ 1 1 [.string nm] rfl rfl (cell_one_new _ _ _) (by simp [Value.oneCell']) (by unfold maxLen; omega) (by omega) (Nat.zero_le _) ?_)
      intro v5 w5 ho5 hg5 _ ha5
      obtain ⟨B5, h5, n5⟩ := step_at (Q := RowA v5 (nmsX (j + 1))) 1 rfl FM HST1.out fun B1 h1 => by
        rw [nmsX_succ, HNM.out]
        exact row_app h1 ((Gr.refl u1).alloc (Nat.le_refl _) (.cells #[.string nm] 9)) (by rw [nmsX_len]; exact ho5) hg5 (by rw [World.size_alloc]; exact ha5)
      have hsh : ∃ s5 c5, v5 = .slice s5 (j + 1) c5 := by
        rcases ho5.2 with ⟨e1, e2⟩ | ⟨g, cap, cur, e1, _⟩
        · exact absurd e2 (by omega)
        · exact ⟨_, cap, e1⟩
      obtain ⟨s5, c5, rfl⟩ := hsh
      have H5 := Lib.hid h5
      have N5 := Lib.hid (NX1.out.trans n5)
      have C5 := Lib.hid (does_at (f := 24) (Q := DiskA p s1) 0 rfl (show Frs ([DiskA p s, RowA (.slice sa j cs) (nmsX j)].set 1 (RowA (.slice s5 (j + 1) c5) (nmsX (j + 1)))) from ⟨fr_disk _ _, fr_row _ _, trivial⟩) h5 fun B1 h1 => CC.out _ B1 h1)
      clear ho5 hg5 ha5 h5 n5 RW FM
      go_wp2_with fail
      refine C5.out.mono ?_; rintro e u6 ⟨rfl, B6, k6, n6⟩
      have K6 := Lib.hid (show stars [DiskA p s1, RowA (.slice s5 (j + 1) c5) (nmsX (j + 1))] u6 B6 from k6)
      have N6 := Lib.hid (N5.out.trans n6)
      have g6 := nx_gr N6.out
      obtain ⟨a', c', b, off, xv, he, ha, hb, hcx, hlies⟩ := liesSS_at (HS.out u6 g6) HSX.out
      simp only [Value.slice.injEq] at he
      obtain ⟨rfl, -, rfl⟩ := he
      subst ha
      have MU6 := Lib.hid (MU.out _ _ hlies)
      obtain ⟨xa, xc, rfl, _⟩ := hlies
      clear k6 n6 g6 C5
      go_wp2_with fail
      refine MU6.out.mono ?_; rintro e u7 ⟨rfl, g7⟩
      have FM7 : Frs [DiskA p s1, RowA (.slice s5 (j + 1) c5) (nmsX (j + 1))] := ⟨fr_disk _ _, fr_row _ _, trivial⟩
      have K7 := Lib.hid (stars_gr FM7 K6.out g7)
      have N7 := Lib.hid (N6.out.trans (Nx.gr g7 (B := B6)))
      have C7 := Lib.hid (does_at (f := 25) (Q := DiskA p s2) 0 rfl FM7 K7.out fun B1 h1 => CA.out _ B1 h1)
      clear g7 FM7
      go_wp2_with fail
      refine C7.out.mono ?_; rintro e u8 ⟨rfl, B8, k8, n8⟩
      have K8 := Lib.hid (show stars [DiskA p s2, RowA (.slice s5 (j + 1) c5) (nmsX (j + 1))] u8 B8 from k8)
      have N8 := Lib.hid (N7.out.trans n8)
      clear k8 n8 C7
      go_wp2_with fail
      refine ⟨⟨j + 1, s2, B8, by have := HN.out; omega, rfl, K3.out, K8.out, N8.out⟩, ?_⟩
      simp [intOf]; omega
    · obtain rfl : j = m := by omega
      have HST := Lib.hid hst
      have NX := Lib.hid nx
      have HD := Lib.hid hD
      clear hst nx hD hrw START
      go_wp2_with fail
      refine bodyPost_ret (v := .tuple #[.pointer (some ⟨p, 0, none⟩), .slice sa j cs, .bool true]) (by simp [results, Tryz.results6, go_sem]) rfl ?_
      refine ⟨p, _, s, B', rfl, ?_, ?_, NX.out⟩
      · rw [HN.out]; exact HD.out
      · rw [HN.out]; exact HST.out
/-- A look at a file that is there. -/
theorem whole17_c {p : Nat} {s : St} {n C : ByteArray} (hC : HasD s n.data.toList C) (hu : s.down = false) (ha : s.ahead = -1) (hc : s.calls ≤ 100000000000) (hn : n.size ≤ 24) (hm : rightB n.data.toList = true) (hz : C.size ≤ 100000000) (w : World) (B : Nat → Prop) (h : DiskA p s w B) :
    Calls Tryz.prog 15 #[.pointer (some ⟨p, 0, none⟩), .string n] w (Does w B (DiskA p s.call.call) (.string C)) := by
  have hst : Stands s n.data.toList C := ⟨hC, hu, ha⟩
  have C1 := Lib.hid (d_size p s n (by omega) hm (by omega) w B h)
  have C2 := Lib.hid (fun (u : World) (B : Nat → Prop) (h : DiskA p s.call u B) => d_read p s.call n 0 C.size (by omega) hm (by have := hc; show s.calls + 1 ≤ _; omega) (by decide) (by omega) u B h)
  rw [hst.size] at C1
  rw [hst.call.1.read C.size (Nat.le_refl _)] at C2
  have e : bs (List.take C.size C.data.toList) = C := by rw [List.take_of_length_le (by rw [Array.length_toList]; exact Nat.le_refl _)]; exact bs_toList C
  simp only [e] at C2
  simp only [] at C1
  clear e hst hC h hm hn
  obtain ⟨cn, hcn⟩ : ∃ cn, C.size = cn := ⟨_, rfl⟩
  rw [hcn] at C1 C2
  rw [hcn] at hz
  clear hcn
  go_enter Tryz.func15, Tryz.ntmps15
  go_wp2_with fail
  refine (C1.out).mono ?_; rintro e u1 ⟨rfl, B1, k1, n1⟩
  have K1 := Lib.hid k1
  have N1 := Lib.hid n1
  clear k1 n1
  go_wp2_with fail
  refine (C2.out _ _ K1.out).mono ?_; rintro e u2 ⟨rfl, B2, k2, n2⟩
  have K2 := Lib.hid k2
  have N2 := Lib.hid n2
  clear k2 n2
  go_wp2_with fail
  go_ret
  exact ⟨rfl, B2, K2.out, N1.out.trans N2.out⟩
end Go.Proofs.YtpmglnghnelenaaGreat
/- Plain facts: what the law's merge comes to. -/
namespace Go.Proofs.YtpmglnghnelenaaGreat
open Go.RowKit FsPlain CrcPlain OctPlain FramePlain RecPlain RdPlain RnPlain WrPlain
set_option linter.unusedVariables false
set_option linter.unusedSimpArgs false
set_option maxRecDepth 20000
/-- The files of some lists. -/
def filesX (n : Int) (X : List (List ByteArray)) : List (ByteArray × ByteArray) := (nmsX X.length).zip (X.map (layR n))
theorem filesX_len (n : Int) (X : List (List ByteArray)) : (filesX n X).length = X.length := by unfold filesX; rw [List.length_zip, nmsX_len, List.length_map, Nat.min_self]
theorem filesX_fst (n : Int) (X : List (List ByteArray)) : (filesX n X).map (·.1) = nmsX X.length := by
  unfold filesX
  rw [List.map_fst_zip]
  rw [nmsX_len, List.length_map]; exact Nat.le_refl _
theorem filesX_at {n : Int} {X : List (List ByteArray)} {i : Nat} {nm C : ByteArray} (h : (filesX n X)[i]? = some (nm, C)) : nm = nameN nmX (i : Int) ∧ ∃ l, X[i]? = some l ∧ C = layR n l := by
  unfold filesX at h
  rw [List.getElem?_zip_eq_some] at h
  obtain ⟨h1, h2⟩ := h
  unfold nmsX at h1
  rw [List.getElem?_map, Option.map_eq_some_iff] at h1
  obtain ⟨j, hj, rfl⟩ := h1
  obtain ⟨hlt, e⟩ := List.getElem?_eq_some_iff.1 hj
  rw [List.getElem_range] at e
  subst e
  rw [List.getElem?_map, Option.map_eq_some_iff] at h2
  obtain ⟨l, hl, rfl⟩ := h2
  exact ⟨rfl, l, hl, rfl⟩
theorem filesX_mem {n : Int} {X : List (List ByteArray)} {p : ByteArray × ByteArray} (h : p ∈ filesX n X) : ∃ i l, i < X.length ∧ X[i]? = some l ∧ p.1 = nameN nmX ((i : Nat) : Int) ∧ p.2 = layR n l := by
  obtain ⟨i, hi, rfl⟩ := List.mem_iff_getElem.1 h
  obtain ⟨h1, l, h2, h3⟩ := filesX_at (n := n) (X := X) (i := i) (nm := (filesX n X)[i].1) (C := (filesX n X)[i].2) (List.getElem?_eq_getElem hi)
  exact ⟨i, l, by rw [filesX_len] at hi; exact hi, h2, h1, h3⟩
/-- What Merge asks of the files. -/
theorem filesX_ok {n : Int} {X : List (List ByteArray)} {s : St} (hX : X.length ≤ 10) (hl : ∀ l ∈ X, l.length ≤ 12 ∧ (∀ s ∈ l, s.size ≤ 80) ∧ layB n l = true) (h : Dk n X X.length s) : ∀ p ∈ filesX n X, HasD s p.1.data.toList p.2 ∧ p.2.size ≤ 3000 ∧ rightB p.1.data.toList = true ∧ p.1.size ≤ 24 ∧ p.1 ≠ nmY := by
  intro p hp
  obtain ⟨i, l, hi, hx, e1, e2⟩ := filesX_mem hp
  obtain ⟨n1, n2, n3⟩ := name_x (i := i) (by omega)
  obtain ⟨h12, _, hB⟩ := hl l (List.mem_of_getElem? hx)
  have := lay_small hB h12
  rw [e1, e2]
  exact ⟨h.file i l hi hx, by omega, n1, n2, fun e => n3 (by rw [e])⟩
theorem nms_nodup (j : Nat) : ((nmsX j).map fun n => n.data.toList).Nodup := by
  induction j with
  | zero => simp [nmsX]
  | succ j ih =>
    rw [nmsX_succ, List.map_append, List.map_cons, List.map_nil]
    refine List.nodup_append.2 ⟨ih, by simp, fun a ha b hb => ?_⟩
    obtain ⟨x, hx, rfl⟩ := List.mem_map.1 ha
    unfold nmsX at hx
    obtain ⟨i, hi, rfl⟩ := List.mem_map.1 hx
    rw [List.mem_range] at hi
    rw [List.mem_singleton.1 hb]
    exact fun e => by have := nameX_inj e; omega
theorem all_srtB {X : List (List ByteArray)} : X.all srtB = true ↔ ∀ l ∈ X, Srt l := by
  rw [List.all_eq_true]
  exact ⟨fun h l hl => srtB_iff.1 (h l hl), fun h l hl => srtB_iff.2 (h l hl)⟩
theorem nmY_right : rightB nmY.data.toList = true := by decide
theorem nmY_size : nmY.size ≤ 24 := by decide
structure MjOk (n : Int) (X : List (List ByteArray)) (u : Bool) (s' : St) (b' : Bu) (k c er : Int) : Prop where
  er : er = 0
  k : k = ((sortT X.flatten u).length : Nat)
  c : c = (sumN (sortT X.flatten u) : Nat)
  ok : s'.ok
  calm : WrPlain.Calm s'
  calls : s'.calls ≤ 2000000
  has : HasD s' nmY.data.toList (layR n (sortT X.flatten u))
  len : s'.fs.length = X.length + 1
  size : (layR n (sortT X.flatten u)).size ≤ 20000
  few : (sortT X.flatten u).length ≤ 120 ∧ (∀ s ∈ sortT X.flatten u, s.size ≤ 80) ∧ layB n (sortT X.flatten u) = true
  there : ∀ i : Nat, i < X.length → ∃ f, s'.get (nameN nmX (i : Int)).data.toList = some f
theorem lay_flat {n : Int} {X : List (List ByteArray)} (hz : sizeB n = true) (h : ∀ l ∈ X, layB n l = true) (u : Bool) : layB n (sortT X.flatten u) = true := by
  unfold layB
  rw [Bool.and_eq_true, allB_iff]
  refine ⟨hz, fun s hs => ?_⟩
  have : s ∈ X.flatten := by
    cases u
    · exact (sortT_perm _).mem_iff.1 hs
    · exact ((sortU _).2 s).1 hs
  obtain ⟨l, hl, hsl⟩ := List.mem_flatten.1 this
  have h1 := h l hl
  unfold layB at h1
  rw [Bool.and_eq_true, allB_iff] at h1
  exact h1.2 s hsl
theorem mj_both {n : Int} {X : List (List ByteArray)} {u : Bool} {s s' : St} {b' : Bu} {k c er : Int} (hz : sizeB n = true) (hX : X.length ≤ 10) (hl : ∀ l ∈ X, l.length ≤ 12 ∧ (∀ s ∈ l, s.size ≤ 80) ∧ layB n l = true) (hD : Dk n X X.length s) {mm : Int} (hmm : 4 * (X.length : Int) + 4 ≤ mm) (h : MergeR s ⟨mm, 0, 0⟩ (filesX n X) nmY n u s' b' k c er) :
    (X.all srtB = true ∧ MjOk n X u s' b' k c er) ∨ (X.all srtB = false ∧ er = 13 ∧ k = 0 ∧ c = 0) := by
  have hfl := filesX_len n X
  have hfile : ∀ (i : Nat) (nm C : ByteArray) (L : List ByteArray), (filesX n X)[i]? = some (nm, C) → X[i]? = some L → IsFile n C L := fun i nm C L h1 h2 => by
    obtain ⟨_, l, h3, h4⟩ := filesX_at h1
    rw [h2] at h3
    cases h3
    rw [h4]
    exact lay_file (hl L (List.mem_of_getElem? h2)).2.2
  have hflat : X.flatten.length ≤ 120 := by
    have := flat_few (fun l h => (hl l h).1) X.length
    rw [List.take_length] at this
    omega
  have hlen := hD.len
  have hused := hD.used
  have hbud : 4 * ((filesX n X).length : Int) + 4 ≤ (⟨mm, 0, 0⟩ : Bu).m - (⟨mm, 0, 0⟩ : Bu).now := by rw [hfl]; show _ ≤ mm - 0; omega
  obtain ⟨e4, e5, hcalm⟩ := h.calm X hfl.symm hfile (by rw [hfl]; omega) hz hbud hD.calm (by omega) (by rw [hD.room]; omega)
  rcases h.code X hfl.symm hfile (by rw [hfl]; omega) hz hbud with e | e | ⟨e, hs⟩ | ⟨e, hs⟩
  · exact absurd e e4
  · exact absurd e e5
  · left
    refine ⟨all_srtB.2 hs, ?_⟩
    obtain ⟨Ls, k1, k2, k3, k4, k5, k6⟩ := h.yes e
    have hLs : Ls = X := by
      refine List.ext_getElem (by omega) fun i h1 h2 => ?_
      have hi : i < (filesX n X).length := by omega
      have e1 : (filesX n X)[i]? = some (filesX n X)[i] := List.getElem?_eq_getElem hi
      exact file_one (k2 i _ _ _ e1 (List.getElem?_eq_getElem h1)).1 (hfile i _ _ _ e1 (List.getElem?_eq_getElem h2))
    subst hLs
    have hB := lay_flat hz (fun l h => (hl l h).2.2) u
    have hle := sortT_le Ls.flatten u
    have hsz := lay_size hB
    have hsB : 1 ≤ n ∧ n ≤ 64 := by simpa [sizeB] using hz
    have h64 : ((sortT Ls.flatten u).length : Int) * n ≤ 120 * 64 := Int.mul_le_mul (by omega) hsB.2 (by omega) (by omega)
    have hcl := h.calls
    obtain ⟨d, _, ho⟩ := h.oth
    refine ⟨e, k4, k5, h.ok, hcalm, ?_, ?_, by rw [k6, hD.len], by omega, ⟨by omega, fun s hs => ?_, hB⟩, fun i hi => ?_⟩
    · have := hD.calls; omega
    · rw [layR_yes hB]; exact k3
    · have : s ∈ Ls.flatten := by
        cases u
        · exact (sortT_perm _).mem_iff.1 hs
        · exact ((sortU _).2 s).1 hs
      obtain ⟨l, hl2, hsl⟩ := List.mem_flatten.1 this
      exact (hl l hl2).2.1 s hsl
    · obtain ⟨_, _, n3⟩ := name_x (i := i) (by omega)
      obtain ⟨f, f1, _⟩ := hD.file i Ls[i] hi (List.getElem?_eq_getElem hi)
      exact ⟨f, by rw [ho.get _ n3]; exact f1⟩
  · right
    obtain ⟨z1, z2⟩ := h.zero (by omega)
    refine ⟨?_, e, z1, z2⟩
    cases hb : X.all srtB
    · rfl
    · exact absurd (all_srtB.1 hb) hs
/-- The files removed, behind some looks. -/
theorem mj_clear {n : Int} {X : List (List ByteArray)} {u : Bool} {s' s2 : St} {b' : Bu} {k c er : Int} (hX : X.length ≤ 10) (h : MjOk n X u s' b' k c er) (q : Quiet s' s2) (hok : s2.ok) :
    (clearR s2 ((nmsX X.length).map fun n => n.data.toList)).2 = 0 ∧ WrPlain.Calm (clearR s2 ((nmsX X.length).map fun n => n.data.toList)).1 ∧ HasD (clearR s2 ((nmsX X.length).map fun n => n.data.toList)).1 nmY.data.toList (layR n (sortT X.flatten u)) ∧ used (clearR s2 ((nmsX X.length).map fun n => n.data.toList)).1.fs = (layR n (sortT X.flatten u)).size ∧ (clearR s2 ((nmsX X.length).map fun n => n.data.toList)).1.ok ∧ (clearR s2 ((nmsX X.length).map fun n => n.data.toList)).1.calls ≤ s2.calls + 10 := by
  have hc : WrPlain.Calm s2 := q.calm h.calm.1 h.calm.2
  have hl : ((nmsX X.length).map fun n => n.data.toList).length = X.length := by rw [List.length_map, nmsX_len]
  obtain ⟨k1, k2, k3, k4, k5⟩ := clear_calm ((nmsX X.length).map fun n => n.data.toList) hok hc (nms_nodup _) fun nm hn => by
    obtain ⟨x, hx, rfl⟩ := List.mem_map.1 hn
    unfold nmsX at hx
    obtain ⟨i, hi, rfl⟩ := List.mem_map.1 hx
    rw [List.mem_range] at hi
    obtain ⟨f, hf⟩ := h.there i hi
    exact ⟨f, by rw [q.get]; exact hf⟩
  have hy : nmY.data.toList ∉ (nmsX X.length).map fun n => n.data.toList := fun hn => by
    obtain ⟨x, hx, e⟩ := List.mem_map.1 hn
    unfold nmsX at hx
    obtain ⟨i, hi, rfl⟩ := List.mem_map.1 hx
    rw [List.mem_range] at hi
    exact (name_x (i := i) (by omega)).2.2 e
  have hH : HasD (clearR s2 ((nmsX X.length).map fun n => n.data.toList)).1 nmY.data.toList (layR n (sortT X.flatten u)) := by
    obtain ⟨f, f1, f2⟩ := h.has
    exact ⟨f, by rw [k4 _ hy, q.get]; exact f1, f2⟩
  refine ⟨k1, k2, hH, used_one hH ?_, ok_clear _ hok, by rw [k5]; omega⟩
  rw [hl, q.fs, h.len] at k3
  omega
end Go.Proofs.YtpmglnghnelenaaGreat
/- The program's disk: List. -/
namespace Go.Proofs.YtpmglnghnelenaaGreat
open Go.RowKit FsPlain
set_option linter.unusedVariables false
set_option linter.unusedSimpArgs false
set_option maxRecDepth 20000
/-- The names in order. -/
def listN (s : St) : List ByteArray := ((s.fs.map fun f => f.name).mergeSort (fun x y => decide (x ≤ y))).map bs
theorem listN_length (s : St) : (listN s).length = s.fs.length := by unfold listN; rw [List.length_map, List.length_mergeSort, List.length_map]
/-- What List hands out. -/
def Listed (p : Nat) (s : St) (B : Nat → Prop) (w : World) (e : Ending) (w' : World) : Prop :=
  Next w p s.call B w' ∧ ((s.call.down = true ∧ e = .returned (.tuple #[.slice none 0 0, .int .i64 5])) ∨
    (s.call.down = false ∧ ∃ v, e = .returned (.tuple #[v, .int .i64 0]) ∧ w'.ownsRow w.heap.size 9 1 v (listN s).length (strs (listN s))))
set_option maxRecDepth 20000 in
set_option maxHeartbeats 1000000 in
theorem list_c (p : Nat) (s : St) (B : Nat → Prop) (w : World) (h : Disk w p s B) (h1 : s.calls ≤ 1000000000000) :
    Calls Tryz.prog 13 #[.pointer (some ⟨p, 0, none⟩)] w (Listed p s B w) := by
  obtain ⟨hs, m, L, hD⟩ := h
  have C := call_yes p m s w hD.heap (by have := hs.c0; omega) h1 (by have := hs.a0; omega) (by have := hs.a1; omega)
  have HS := Lib.hid hs
  have HD := Lib.hid hD
  clear hD hs
  have hc : s.call.code = if s.call.down = true then 5 else 0 := rfl
  cases hd : s.call.down
  · rw [hd] at hc
    rw [show s.call.code = 0 from hc] at C
    have HDN := Lib.hid hd
    clear hc hd
    go_enter Tryz.func13, Tryz.ntmps13
    go_wp2_with fail
    refine C.mono ?_; rintro e w2 ⟨rfl, k⟩
    have HK := Lib.hid k
    have D2 := Lib.hid (HD.out.called k)
    have N2 := Lib.hid (next_called HS.out D2.out k.2)
    have CN := Lib.hid (names_c p m s.call B L w2 (ok_call HS.out) D2.out)
    clear k C
    go_wp2_with fail
    refine (CN.out).mono ?_; rintro e w3 ⟨v, rfl, ho, g⟩
    have HO := Lib.hid ho
    have G := Lib.hid g
    have sh : ∃ a n c, v = .slice a n c := by
      rcases ho.2 with ⟨e, _⟩ | ⟨g, cap, cur, e, _⟩
      · exact ⟨none, 0, 0, e⟩
      · exact ⟨_, _, _, e⟩
    obtain ⟨a, n, c, rfl⟩ := sh
    clear ho g
    go_wp2_with fail
    go_ret2
    refine ⟨?_, .inr ⟨HDN.out, _, rfl, ?_⟩⟩
    · obtain ⟨B', hd, ho, hn⟩ := N2.out
      exact ⟨B', hd.only (Only.ofGr (B := fun _ => False) G.out) (fun _ _ e => e), ho.trans (Only.ofGr G.out), hn⟩
    · have hfs : (L.map fun x => x.f.name) = s.fs.map fun f => f.name := by
        have h := D2.out.fs
        have h2 := congrArg (List.map fun f : F => f.name) h
        rw [List.map_map] at h2
        exact h2
      have ho := HO.out
      rw [hfs] at ho
      have e1 : strs (listN s) = ((s.fs.map fun f => f.name).mergeSort (fun x y => decide (x ≤ y))).map encStr := by
        unfold strs listN
        rw [List.map_map]
        rfl
      have e2 : (listN s).length = ((s.fs.map fun f => f.name).mergeSort (fun x y => decide (x ≤ y))).length := by unfold listN; rw [List.length_map]
      rw [e1, e2]
      have hws : w.heap.size ≤ w2.heap.size := HK.out.2.size
      refine ⟨ho.1, ho.2.imp id ?_⟩
      rintro ⟨g, cap, cur, h1, h2, h3⟩
      exact ⟨g, cap, cur, h1, Nat.le_trans hws h2, h3⟩
  · rw [hd] at hc
    rw [show s.call.code = 5 from hc] at C
    have HDN := Lib.hid hd
    clear hc hd
    go_enter Tryz.func13, Tryz.ntmps13
    go_wp2_with fail
    refine C.mono ?_; rintro e w2 ⟨rfl, k⟩
    have N2 := Lib.hid (next_called HS.out (HD.out.called k) k.2)
    clear k C
    go_wp2_with fail
    go_ret2
    exact ⟨N2.out, .inl ⟨HDN.out, rfl⟩⟩
end Go.Proofs.YtpmglnghnelenaaGreat
