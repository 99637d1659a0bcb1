/- In one text: Rrd4, Rrd5, Rrd6. -/
import Derived.Test.YtojlceoeacebmaaGreatP18
import Derived.Test.YtojlceoeacebmaaGreatP04
import Derived.Test.YtojlceoeacebmaaGreatP05
import Derived.Test.YtojlceoeacebmaaGreatP11
import Derived.Test.YtojlceoeacebmaaGreatP00
import Derived.Deep.RegionHeld3
import Derived.Maps.AppendAt
/- The document's reader: Next, where a read tells an end, or a block. -/
namespace Go.Proofs.YtojlceoeacebmaaGreat
open Go.RowKit FsPlain CrcPlain OctPlain FramePlain RecPlain RdPlain
set_option linter.unusedVariables false
set_option linter.unusedSimpArgs false
set_option maxRecDepth 20000
set_option maxHeartbeats 4000000 in
theorem rr_fill_end (x D P : Nat) (m : N3) (hok : m.ok) (ho : m.x.opn = true) (hq : m.x.queue = []) (hc : m.s.calls ≤ 1000000000000) (hal : m.x.all.length ≤ 100000) (he : errN m = 0) (hg : gB m.x.size (bytesN m) = false) (he2 : eB (bytesN m) = true) (hl : (bytesN m).size = m.x.left) (hec2 : eC (bytesN m) = (m.x.all.length : Int)) (hem2 : eM (bytesN m) = (sumN m.x.all : Nat)) (w : World) (B : Nat → Prop) (h : RR3 x D P m w B) :
    Calls Tryz.prog 21 #[.pointer (some ⟨x, 0, none⟩)] w (Does w B (RR3 x D P (shutN (m.asked.ended (bytesN m)))) (ansV (noneA 0))) := by
  obtain ⟨vq, va, h⟩ := h
  obtain ⟨_, hqa, _⟩ := part_at 1 rfl h
  obtain ⟨⟨qa, qc, rfl, _⟩, _⟩ := hqa
  have hql : m.x.queue.length = 0 := by rw [hq]; rfl
  rw [hql] at h
  have hb := rdl_blk h
  have hz := hok.z
  have hs2 : 1 ≤ m.x.size ∧ m.x.size ≤ 64 := by simpa [sizeB] using hz
  obtain ⟨ai, ai2⟩ := ask_int m.x hz
  obtain ⟨t, ht⟩ : ∃ t, t = bytesN m := ⟨_, rfl⟩
  obtain ⟨er, her⟩ : ∃ er, er = errN m := ⟨_, rfl⟩
  obtain ⟨ak, hak⟩ : ∃ ak : Nat, ak = askN m.x := ⟨_, rfl⟩
  obtain ⟨rm, hrm⟩ : ∃ rm, rm = roomN m.x.size := ⟨_, rfl⟩
  have c9 : w.cell? ⟨x, 9, none⟩ = some (.bool true) := by rw [cells_at hb, ← ho]; rfl
  have c6 : w.cell? ⟨x, 6, none⟩ = some (.slice qa 0 qc) := by rw [cells_at hb]; rfl
  have K0 : ∀ u, Gr w u → u.cell? ⟨x, 0, none⟩ = some (.pointer (some ⟨D, 0, none⟩)) ∧ u.cell? ⟨x, 2, none⟩ = some (.string m.x.nm) ∧ u.cell? ⟨x, 4, none⟩ = some (.int .i64 m.x.pos) ∧ u.cell? ⟨x, 5, none⟩ = some (.int .i64 m.x.left) ∧ u.cell? ⟨x, 3, none⟩ = some (.int .i64 m.x.size) := fun u g => by
    have hb := rdl_blk (stars_gr (frs_rdl _ _ _ _ _ _ _ _ _ _) h g)
    exact ⟨by rw [cells_at hb]; rfl, by rw [cells_at hb]; rfl, by rw [cells_at hb]; rfl, by rw [cells_at hb]; rfl, by rw [cells_at hb]; rfl⟩
  have CR : ∀ u, Gr w u → Calls Tryz.prog 46 #[.pointer (some ⟨D, 0, none⟩), .string m.x.nm, .int .i64 (m.x.pos : Int), .int .i64 (ak : Nat)] u fun e w' => e = .returned (.tuple #[.string t, .int .i64 er]) ∧ (∃ B', stars (rdl x D P m.s.call m.b (rdcells D P m.x (.slice qa 0 qc) va) (.slice qa 0 qc) va m.x.queue m.x.all) w' B' ∧ Nx B w B' w') ∧ (w'.cell? ⟨x, 0, none⟩ = some (.pointer (some ⟨D, 0, none⟩)) ∧ w'.cell? ⟨x, 2, none⟩ = some (.string m.x.nm) ∧ w'.cell? ⟨x, 4, none⟩ = some (.int .i64 m.x.pos) ∧ w'.cell? ⟨x, 5, none⟩ = some (.int .i64 m.x.left) ∧ w'.cell? ⟨x, 3, none⟩ = some (.int .i64 m.x.size)) := fun u g => by
    rw [ht, her, hak]
    refine (rr_read x D P m hok hc _ _ u B (stars_gr (frs_rdl _ _ _ _ _ _ _ _ _ _) h g)).mono ?_
    rintro e w' ⟨he, B', h', n'⟩
    have hb := rdl_blk h'
    exact ⟨he, ⟨B', h', (Nx.gr g).trans n'⟩, by rw [cells_at hb]; rfl, by rw [cells_at hb]; rfl, by rw [cells_at hb]; rfl, by rw [cells_at hb]; rfl, by rw [cells_at hb]; rfl⟩
  have CM : ∀ u, Gr w u → Calls Tryz.prog 56 #[.int .i64 m.x.size] u fun e w' => e = .returned (.int .i64 rm) ∧ Gr w w' := fun u g => by
    rw [hrm]
    exact (rroom_c m.x.size (by unfold I64; omega) u).mono fun e w' ⟨he, hw⟩ => ⟨he, by rw [← hw]; exact g⟩
  rw [← hrm, ← hak] at ai
  have hmax : max 17 rm = rm ∨ max 17 rm = 17 := by omega
  have KS := Lib.hid K0
  have CRH := Lib.hid CR
  have CMH := Lib.hid CM
  have gU := Gr.refl w
  have gUd : Gr w w.drew := Below.drew gU
  have HOK := Lib.hid hok
  have HQ := Lib.hid hq
  have HO := Lib.hid ho
  obtain ⟨su, hsu⟩ : ∃ su : Nat, su = sumN m.x.all := ⟨_, rfl⟩
  obtain ⟨al, hal'⟩ : ∃ al : Nat, al = m.x.all.length := ⟨_, rfl⟩
  have CS0 : ∀ u Bu, stars (rdl x D P m.s.call m.b (rdcells D P m.x (.slice qa 0 qc) va) (.slice qa 0 qc) va m.x.queue m.x.all) u Bu → Calls Tryz.prog 60 #[va] u fun e w' => e = .returned (.agg #[.int .i64 al, .int .u32 su]) ∧ Gr u w' := fun u Bu h => by
    obtain ⟨_, hr, _⟩ := part_at 2 rfl h
    have := rsum_c (row_lies hr) (by omega) hok.az
    unfold SumGot at this
    rw [← hsu, ← hal'] at this
    exact this
  have CS := Lib.hid CS0
  have he0 : er = 0 := by rw [her]; exact he
  have hts : t.size = ak := by rw [ht, hak]; exact bytesN_size he
  have CG := Lib.hid (fun u => rfget_c t m.x.size (by unfold I64; omega) u (by omega))
  have CE := Lib.hid (fun u => rgetend_c t u)
  rw [← ht] at hg he2 hl hec2 hem2 ⊢
  obtain ⟨gb, hgb⟩ : ∃ gb, gb = gB m.x.size t := ⟨_, rfl⟩
  obtain ⟨gn, hgn⟩ : ∃ gn, gn = gN m.x.size t := ⟨_, rfl⟩
  obtain ⟨gl, hgl⟩ : ∃ gl, gl = gL m.x.size t := ⟨_, rfl⟩
  obtain ⟨eb, heb⟩ : ∃ eb, eb = eB t := ⟨_, rfl⟩
  obtain ⟨ec, hec⟩ : ∃ ec, ec = eC t := ⟨_, rfl⟩
  obtain ⟨em, hem⟩ : ∃ em, em = eM t := ⟨_, rfl⟩
  unfold FGot at CG
  unfold EGot at CE
  rw [← hgb, ← hgn, ← hgl] at CG
  rw [← heb, ← hec, ← hem] at CE
  rw [← hgb] at hg
  rw [← heb] at he2
  subst hg he2
  have hl1 : ((t.size : Int) == (m.x.left : Int)) = true := by simpa using (show (t.size : Int) = (m.x.left : Int) by omega)
  rw [← hec, ← hal'] at hec2
  rw [← hem, ← hsu] at hem2
  subst hec2 hem2
  have HEC := Lib.hid hec
  have HEM := Lib.hid hem
  have IE := info_eq (al : Int) (su : Int)
  have IS := info_same (al : Int) (su : Int)
  subst he0
  clear CS0 hsu hal'
  clear h hb hz K0 CR CM ht hak hrm ho hq hok her he hgn hgl hgb heb hec hem hts
  go_enter Tryz.func21, Tryz.ntmps21
  go_wp2_with fail
  go_region_held3 (fun w' => w'.cell? ⟨x, 0, none⟩ = some (.pointer (some ⟨D, 0, none⟩)) ∧ w'.cell? ⟨x, 2, none⟩ = some (.string m.x.nm) ∧ w'.cell? ⟨x, 4, none⟩ = some (.int .i64 m.x.pos) ∧ w'.cell? ⟨x, 5, none⟩ = some (.int .i64 m.x.left) ∧ w'.cell? ⟨x, 3, none⟩ = some (.int .i64 m.x.size)) (first | exact KS.out _ gUd | exact KS.out _ (by assumption) | assumption | go_keep)
    ((first
      | (go_at_call 56; (with_reducible refine (CMH.out _ (by assumption)).mono ?_); rintro e t1 ⟨rfl, g1⟩)
      | (go_at_call 46; refine (CRH.out _ (by assumption)).mono ?_; rintro e t2 ⟨rfl, hst, hks⟩)))
  obtain ⟨B2, h2, n2⟩ := hst
  have H2 := Lib.hid h2
  have N2 := Lib.hid n2
  clear h2 n2 hks
  go_wp2_with fail
  refine (CG.out _).mono ?_; rintro e u3 ⟨v3, rfl, ho3, g3⟩
  have hl3 := ho3.lt
  obtain ⟨B3, h3, n3⟩ : ∃ B', stars (rdl x D P m.s.call m.b (rdcells D P m.x (.slice qa 0 qc) va) (.slice qa 0 qc) va m.x.queue m.x.all) u3 B' ∧ Nx B2 t2 B' u3 := ⟨B2, stars_gr (frs_rdl _ _ _ _ _ _ _ _ _ _) H2.out g3, Nx.gr g3⟩
  have HO3 := Lib.hid ho3
  have H3 := Lib.hid h3
  have NN3 := Lib.hid (N2.out.trans n3)
  clear h3 n3 ho3 hl3 g3
  go_wp2_with fail
  refine (CE.out _).mono ?_; rintro e u4 ⟨rfl, g4⟩
  have h4 := stars_gr (frs_rdl _ _ _ _ _ _ _ _ _ _) H3.out g4
  have H4 := Lib.hid h4
  have N4 := Lib.hid (NN3.out.trans (Nx.gr g4))
  have hb4 := rdl_blk h4
  have hxl4 := lt_of_block hb4
  have w12 : u4.cell? ⟨x, 12, none⟩ = some (.bool m.x.short) := by rw [cells_at hb4]; rfl
  have w5' : u4.cell? ⟨x, 5, none⟩ = some (.int .i64 m.x.left) := by rw [cells_at hb4]; rfl
  have w7 : u4.cell? ⟨x, 7, none⟩ = some va := by rw [cells_at hb4]; rfl
  obtain ⟨X, hX⟩ : ∃ X, X = u4.alloc (.cells #[.int .i64 (al : Nat), .int .u32 (su : Nat)] 51) := ⟨_, rfl⟩
  have gX : Gr u4 X := by rw [hX]; exact (Gr.refl u4).alloc (Nat.le_refl _) _
  have HX := Lib.hid hX
  have GX := Lib.hid gX
  have h5 := stars_gr (frs_rdl _ _ _ _ _ _ _ _ _ _) h4 gX
  have H5 := Lib.hid h5
  have N5 := Lib.hid (N4.out.trans (Nx.gr gX))
  have G4 := Lib.hid g4
  clear h4 h5 g4 hb4 hX gX
  go_wp2_with fail
  rw [← HX.out]
  have x5 : X.cell? ⟨x, 5, none⟩ = some (.int .i64 m.x.left) := (GX.out.cell (p := ⟨x, 5, none⟩) hxl4).trans w5'
  have x7 : X.cell? ⟨x, 7, none⟩ = some va := (GX.out.cell (p := ⟨x, 7, none⟩) hxl4).trans w7
  have i0 : X.cell? ⟨u4.heap.size, 0, none⟩ = some (.int .i64 (al : Nat)) := by rw [HX.out, World.cell?_alloc_mark]; rfl
  have i1 : X.cell? ⟨u4.heap.size, 1, none⟩ = some (.int .u32 (su : Nat)) := by rw [HX.out, World.cell?_alloc_mark]; rfl
  have hqX : u4.heap.size < X.heap.size := by rw [HX.out, World.size_alloc]; omega
  have hxX : x < X.heap.size := Nat.lt_of_lt_of_le hxl4 GX.out.size
  have KX : ∀ u, Gr X u → u.cell? ⟨x, 5, none⟩ = some (.int .i64 m.x.left) ∧ u.cell? ⟨x, 7, none⟩ = some va ∧ u.cell? ⟨u4.heap.size, 0, none⟩ = some (.int .i64 (al : Nat)) ∧ u.cell? ⟨u4.heap.size, 1, none⟩ = some (.int .u32 (su : Nat)) := fun u g => ⟨(g.cell (p := ⟨x, 5, none⟩) hxX).trans x5, (g.cell (p := ⟨x, 7, none⟩) hxX).trans x7, (g.cell (p := ⟨u4.heap.size, 0, none⟩) hqX).trans i0, (g.cell (p := ⟨u4.heap.size, 1, none⟩) hqX).trans i1⟩
  have KXH := Lib.hid KX
  have gXX := Gr.refl X
  have gXd : Gr X X.drew := Below.drew gXX
  have CSX := Lib.hid (fun u (g : Gr X u) => (CS.out u _ (stars_gr (frs_rdl _ _ _ _ _ _ _ _ _ _) H5.out g)).mono fun e w' (h : _ ∧ Gr u w') => (⟨h.1, g.trans h.2⟩ : _ ∧ Gr X w'))
  clear KX
  go_region_held3 (fun w' => w'.cell? ⟨x, 5, none⟩ = some (.int .i64 m.x.left) ∧ w'.cell? ⟨x, 7, none⟩ = some va ∧ w'.cell? ⟨u4.heap.size, 0, none⟩ = some (.int .i64 (al : Nat)) ∧ w'.cell? ⟨u4.heap.size, 1, none⟩ = some (.int .u32 (su : Nat))) (first | exact KXH.out _ gXd | exact KXH.out _ (by assumption) | assumption | go_keep)
    ((first
      | (go_at_call 60; (with_reducible refine (CSX.out _ (by assumption)).mono ?_); rintro e s1 ⟨rfl, gs1⟩)))
  obtain ⟨e5, e7, e0, e1⟩ := KXH.out _ gs1
  have h8 := stars_gr (frs_rdl _ _ _ _ _ _ _ _ _ _) H5.out gs1
  have hb8 := rdl_blk h8
  have k11 : s1.cell? ⟨x, 11, none⟩ = some (.bool m.x.whole) := by rw [cells_at hb8]; rfl
  have k13 : s1.cell? ⟨x, 13, none⟩ = some (.int .i64 m.x.ec) := by rw [cells_at hb8]; rfl
  have k14 : s1.cell? ⟨x, 14, none⟩ = some (.int .u32 m.x.em) := by rw [cells_at hb8]; rfl
  have f11 := cells_free hb8 11
  have f13 := cells_free hb8 13
  have f14 := cells_free hb8 14
  have hne : u4.heap.size ≠ x := by omega
  obtain ⟨C1, a1, b1⟩ := rdl_set (c' := rdcells D P { m.x with whole := true } (.slice qa 0 qc) va) 11 (.bool true) h8 rfl
  obtain ⟨C2, a2, b2⟩ := rdl_set (c' := rdcells D P { m.x with whole := true, ec := (al : Int) } (.slice qa 0 qc) va) 13 (.int .i64 (al : Nat)) a1 rfl
  obtain ⟨C3, a3, b3⟩ := rdl_set (c' := rdcells D P { m.x with whole := true, ec := (al : Int), em := (su : Int) } (.slice qa 0 qc) va) 14 (.int .u32 (su : Nat)) a2 rfl
  obtain ⟨V, hV⟩ : ∃ V, V = ((s1.setCell ⟨x, 11, none⟩ (.bool true)).setCell ⟨x, 13, none⟩ (.int .i64 (al : Nat))).setCell ⟨x, 14, none⟩ (.int .u32 (su : Nat)) := ⟨_, rfl⟩
  rw [← hV] at a3 b3
  have a4 : RR3 x D P (m.asked.ended t) V C3 := ⟨.slice qa 0 qc, va, by unfold N3.ended; rw [← HEC.out, ← HEM.out]; exact a3⟩
  have CW := Lib.hid (rr_shut x D P (m.asked.ended t) V C3 a4)
  have NV := Lib.hid ((((N5.out.trans (Nx.gr gs1)).trans b1).trans b2).trans b3)
  have HV := Lib.hid hV
  clear h8 hb8 a1 a2 a3 a4 b1 b2 b3 hV
  go_wp2_with fail
  rw [← HV.out]
  refine CW.out.mono ?_; rintro e w9 hd
  obtain ⟨rfl, B9, h9, n9⟩ := hd
  have H9 := Lib.hid h9
  have N9 := Lib.hid (NV.out.trans n9)
  clear h9 n9 CW
  go_wp2_with fail
  exact bodyPost_ret (v := ansV (noneA 0)) (by simp [results, Tryz.results21, go_sem, ansV, noneA]) rfl ⟨rfl, B9, H9.out, N9.out⟩
end Go.Proofs.YtojlceoeacebmaaGreat
/- The document's reader: Next, where a read tells an end of other records. -/
namespace Go.Proofs.YtojlceoeacebmaaGreat
open Go.RowKit FsPlain CrcPlain OctPlain FramePlain RecPlain RdPlain
set_option linter.unusedVariables false
set_option linter.unusedSimpArgs false
set_option maxRecDepth 20000
theorem info_unlike (n m n' m' : Int) (h : ¬ (n = n' ∧ m = m')) (w : World) : (Op.equalIn 10000 51 (.agg #[.int .i64 n, .int .u32 m]) (.agg #[.int .i64 n', .int .u32 m'])).run Tryz.prog w = .ok false w := by
  rw [run_equalIn_agg w 9999 _ _ _ (by kernel_rfl) (by kernel_rfl)]
  by_cases h1 : n = n'
  · have h2 : ¬ m = m' := fun e => h ⟨h1, e⟩
    simp [go_sem, h1, h2]
  · simp [go_sem, h1]
theorem info_uneq (n m n' m' : Int) (h : ¬ (n = n' ∧ m = m')) (w : World) : (binOp .eql 51 (.agg #[.int .i64 n, .int .u32 m]) (.agg #[.int .i64 n', .int .u32 m'])).run Tryz.prog w = .ok (.bool false) w := by
  rw [run_eql_struct, info_unlike n m n' m' h]
  rfl
set_option maxHeartbeats 4000000 in
theorem rr_fill_odd (x D P : Nat) (m : N3) (hok : m.ok) (ho : m.x.opn = true) (hq : m.x.queue = []) (hc : m.s.calls ≤ 1000000000000) (hal : m.x.all.length ≤ 100000) (he : errN m = 0) (hg : gB m.x.size (bytesN m) = false) (he2 : eB (bytesN m) = true) (hl : (bytesN m).size = m.x.left) (hne : ¬ (eC (bytesN m) = (m.x.all.length : Int) ∧ eM (bytesN m) = (sumN m.x.all : Nat))) (w : World) (B : Nat → Prop) (h : RR3 x D P m w B) :
    Calls Tryz.prog 21 #[.pointer (some ⟨x, 0, none⟩)] w (Does w B (RR3 x D P (wrongN m.asked)) (ansV (noneA 6))) := by
  obtain ⟨vq, va, h⟩ := h
  obtain ⟨_, hqa, _⟩ := part_at 1 rfl h
  obtain ⟨⟨qa, qc, rfl, _⟩, _⟩ := hqa
  have hql : m.x.queue.length = 0 := by rw [hq]; rfl
  rw [hql] at h
  have hb := rdl_blk h
  have hz := hok.z
  have hs2 : 1 ≤ m.x.size ∧ m.x.size ≤ 64 := by simpa [sizeB] using hz
  obtain ⟨ai, ai2⟩ := ask_int m.x hz
  obtain ⟨t, ht⟩ : ∃ t, t = bytesN m := ⟨_, rfl⟩
  obtain ⟨er, her⟩ : ∃ er, er = errN m := ⟨_, rfl⟩
  obtain ⟨ak, hak⟩ : ∃ ak : Nat, ak = askN m.x := ⟨_, rfl⟩
  obtain ⟨rm, hrm⟩ : ∃ rm, rm = roomN m.x.size := ⟨_, rfl⟩
  have c9 : w.cell? ⟨x, 9, none⟩ = some (.bool true) := by rw [cells_at hb, ← ho]; rfl
  have c6 : w.cell? ⟨x, 6, none⟩ = some (.slice qa 0 qc) := by rw [cells_at hb]; rfl
  have K0 : ∀ u, Gr w u → u.cell? ⟨x, 0, none⟩ = some (.pointer (some ⟨D, 0, none⟩)) ∧ u.cell? ⟨x, 2, none⟩ = some (.string m.x.nm) ∧ u.cell? ⟨x, 4, none⟩ = some (.int .i64 m.x.pos) ∧ u.cell? ⟨x, 5, none⟩ = some (.int .i64 m.x.left) ∧ u.cell? ⟨x, 3, none⟩ = some (.int .i64 m.x.size) := fun u g => by
    have hb := rdl_blk (stars_gr (frs_rdl _ _ _ _ _ _ _ _ _ _) h g)
    exact ⟨by rw [cells_at hb]; rfl, by rw [cells_at hb]; rfl, by rw [cells_at hb]; rfl, by rw [cells_at hb]; rfl, by rw [cells_at hb]; rfl⟩
  have CR : ∀ u, Gr w u → Calls Tryz.prog 46 #[.pointer (some ⟨D, 0, none⟩), .string m.x.nm, .int .i64 (m.x.pos : Int), .int .i64 (ak : Nat)] u fun e w' => e = .returned (.tuple #[.string t, .int .i64 er]) ∧ (∃ B', stars (rdl x D P m.s.call m.b (rdcells D P m.x (.slice qa 0 qc) va) (.slice qa 0 qc) va m.x.queue m.x.all) w' B' ∧ Nx B w B' w') ∧ (w'.cell? ⟨x, 0, none⟩ = some (.pointer (some ⟨D, 0, none⟩)) ∧ w'.cell? ⟨x, 2, none⟩ = some (.string m.x.nm) ∧ w'.cell? ⟨x, 4, none⟩ = some (.int .i64 m.x.pos) ∧ w'.cell? ⟨x, 5, none⟩ = some (.int .i64 m.x.left) ∧ w'.cell? ⟨x, 3, none⟩ = some (.int .i64 m.x.size)) := fun u g => by
    rw [ht, her, hak]
    refine (rr_read x D P m hok hc _ _ u B (stars_gr (frs_rdl _ _ _ _ _ _ _ _ _ _) h g)).mono ?_
    rintro e w' ⟨he, B', h', n'⟩
    have hb := rdl_blk h'
    exact ⟨he, ⟨B', h', (Nx.gr g).trans n'⟩, by rw [cells_at hb]; rfl, by rw [cells_at hb]; rfl, by rw [cells_at hb]; rfl, by rw [cells_at hb]; rfl, by rw [cells_at hb]; rfl⟩
  have CM : ∀ u, Gr w u → Calls Tryz.prog 56 #[.int .i64 m.x.size] u fun e w' => e = .returned (.int .i64 rm) ∧ Gr w w' := fun u g => by
    rw [hrm]
    exact (rroom_c m.x.size (by unfold I64; omega) u).mono fun e w' ⟨he, hw⟩ => ⟨he, by rw [← hw]; exact g⟩
  rw [← hrm, ← hak] at ai
  have hmax : max 17 rm = rm ∨ max 17 rm = 17 := by omega
  have KS := Lib.hid K0
  have CRH := Lib.hid CR
  have CMH := Lib.hid CM
  have gU := Gr.refl w
  have gUd : Gr w w.drew := Below.drew gU
  have HOK := Lib.hid hok
  have HQ := Lib.hid hq
  have HO := Lib.hid ho
  obtain ⟨su, hsu⟩ : ∃ su : Nat, su = sumN m.x.all := ⟨_, rfl⟩
  obtain ⟨al, hal'⟩ : ∃ al : Nat, al = m.x.all.length := ⟨_, rfl⟩
  have CS0 : ∀ u Bu, stars (rdl x D P m.s.call m.b (rdcells D P m.x (.slice qa 0 qc) va) (.slice qa 0 qc) va m.x.queue m.x.all) u Bu → Calls Tryz.prog 60 #[va] u fun e w' => e = .returned (.agg #[.int .i64 al, .int .u32 su]) ∧ Gr u w' := fun u Bu h => by
    obtain ⟨_, hr, _⟩ := part_at 2 rfl h
    have := rsum_c (row_lies hr) (by omega) hok.az
    unfold SumGot at this
    rw [← hsu, ← hal'] at this
    exact this
  have CS := Lib.hid CS0
  have he0 : er = 0 := by rw [her]; exact he
  have hts : t.size = ak := by rw [ht, hak]; exact bytesN_size he
  have CG := Lib.hid (fun u => rfget_c t m.x.size (by unfold I64; omega) u (by omega))
  have CE := Lib.hid (fun u => rgetend_c t u)
  rw [← ht] at hg he2 hl hne
  obtain ⟨gb, hgb⟩ : ∃ gb, gb = gB m.x.size t := ⟨_, rfl⟩
  obtain ⟨gn, hgn⟩ : ∃ gn, gn = gN m.x.size t := ⟨_, rfl⟩
  obtain ⟨gl, hgl⟩ : ∃ gl, gl = gL m.x.size t := ⟨_, rfl⟩
  obtain ⟨eb, heb⟩ : ∃ eb, eb = eB t := ⟨_, rfl⟩
  obtain ⟨ec, hec⟩ : ∃ ec, ec = eC t := ⟨_, rfl⟩
  obtain ⟨em, hem⟩ : ∃ em, em = eM t := ⟨_, rfl⟩
  unfold FGot at CG
  unfold EGot at CE
  rw [← hgb, ← hgn, ← hgl] at CG
  rw [← heb, ← hec, ← hem] at CE
  rw [← hgb] at hg
  rw [← heb] at he2
  subst hg he2
  have hl1 : ((t.size : Int) == (m.x.left : Int)) = true := by simpa using (show (t.size : Int) = (m.x.left : Int) by omega)
  rw [← hec, ← hem, ← hal', ← hsu] at hne
  have IE := info_uneq ec em (al : Nat) (su : Nat) hne
  have IS := info_unlike ec em (al : Nat) (su : Nat) hne
  clear hne
  subst he0
  clear CS0 hsu hal'
  clear h hb hz K0 CR CM ht hak hrm ho hq hok her he hgn hgl hgb heb hec hem hts
  go_enter Tryz.func21, Tryz.ntmps21
  go_wp2_with fail
  go_region_held3 (fun w' => w'.cell? ⟨x, 0, none⟩ = some (.pointer (some ⟨D, 0, none⟩)) ∧ w'.cell? ⟨x, 2, none⟩ = some (.string m.x.nm) ∧ w'.cell? ⟨x, 4, none⟩ = some (.int .i64 m.x.pos) ∧ w'.cell? ⟨x, 5, none⟩ = some (.int .i64 m.x.left) ∧ w'.cell? ⟨x, 3, none⟩ = some (.int .i64 m.x.size)) (first | exact KS.out _ gUd | exact KS.out _ (by assumption) | assumption | go_keep)
    ((first
      | (go_at_call 56; (with_reducible refine (CMH.out _ (by assumption)).mono ?_); rintro e t1 ⟨rfl, g1⟩)
      | (go_at_call 46; refine (CRH.out _ (by assumption)).mono ?_; rintro e t2 ⟨rfl, hst, hks⟩)))
  obtain ⟨B2, h2, n2⟩ := hst
  have H2 := Lib.hid h2
  have N2 := Lib.hid n2
  clear h2 n2 hks
  go_wp2_with fail
  refine (CG.out _).mono ?_; rintro e u3 ⟨v3, rfl, ho3, g3⟩
  have hl3 := ho3.lt
  obtain ⟨B3, h3, n3⟩ : ∃ B', stars (rdl x D P m.s.call m.b (rdcells D P m.x (.slice qa 0 qc) va) (.slice qa 0 qc) va m.x.queue m.x.all) u3 B' ∧ Nx B2 t2 B' u3 := ⟨B2, stars_gr (frs_rdl _ _ _ _ _ _ _ _ _ _) H2.out g3, Nx.gr g3⟩
  have HO3 := Lib.hid ho3
  have H3 := Lib.hid h3
  have NN3 := Lib.hid (N2.out.trans n3)
  clear h3 n3 ho3 hl3 g3
  go_wp2_with fail
  refine (CE.out _).mono ?_; rintro e u4 ⟨rfl, g4⟩
  have h4 := stars_gr (frs_rdl _ _ _ _ _ _ _ _ _ _) H3.out g4
  have H4 := Lib.hid h4
  have N4 := Lib.hid (NN3.out.trans (Nx.gr g4))
  have hb4 := rdl_blk h4
  have hxl4 := lt_of_block hb4
  have w12 : u4.cell? ⟨x, 12, none⟩ = some (.bool m.x.short) := by rw [cells_at hb4]; rfl
  have w5' : u4.cell? ⟨x, 5, none⟩ = some (.int .i64 m.x.left) := by rw [cells_at hb4]; rfl
  have w7 : u4.cell? ⟨x, 7, none⟩ = some va := by rw [cells_at hb4]; rfl
  obtain ⟨X, hX⟩ : ∃ X, X = u4.alloc (.cells #[.int .i64 ec, .int .u32 em] 51) := ⟨_, rfl⟩
  have gX : Gr u4 X := by rw [hX]; exact (Gr.refl u4).alloc (Nat.le_refl _) _
  have HX := Lib.hid hX
  have GX := Lib.hid gX
  have h5 := stars_gr (frs_rdl _ _ _ _ _ _ _ _ _ _) h4 gX
  have H5 := Lib.hid h5
  have N5 := Lib.hid (N4.out.trans (Nx.gr gX))
  have G4 := Lib.hid g4
  clear h4 h5 g4 hb4 hX gX
  go_wp2_with fail
  rw [← HX.out]
  have x5 : X.cell? ⟨x, 5, none⟩ = some (.int .i64 m.x.left) := (GX.out.cell (p := ⟨x, 5, none⟩) hxl4).trans w5'
  have x7 : X.cell? ⟨x, 7, none⟩ = some va := (GX.out.cell (p := ⟨x, 7, none⟩) hxl4).trans w7
  have i0 : X.cell? ⟨u4.heap.size, 0, none⟩ = some (.int .i64 ec) := by rw [HX.out, World.cell?_alloc_mark]; rfl
  have i1 : X.cell? ⟨u4.heap.size, 1, none⟩ = some (.int .u32 em) := by rw [HX.out, World.cell?_alloc_mark]; rfl
  have hqX : u4.heap.size < X.heap.size := by rw [HX.out, World.size_alloc]; omega
  have hxX : x < X.heap.size := Nat.lt_of_lt_of_le hxl4 GX.out.size
  have KX : ∀ u, Gr X u → u.cell? ⟨x, 5, none⟩ = some (.int .i64 m.x.left) ∧ u.cell? ⟨x, 7, none⟩ = some va ∧ u.cell? ⟨u4.heap.size, 0, none⟩ = some (.int .i64 ec) ∧ u.cell? ⟨u4.heap.size, 1, none⟩ = some (.int .u32 em) := fun u g => ⟨(g.cell (p := ⟨x, 5, none⟩) hxX).trans x5, (g.cell (p := ⟨x, 7, none⟩) hxX).trans x7, (g.cell (p := ⟨u4.heap.size, 0, none⟩) hqX).trans i0, (g.cell (p := ⟨u4.heap.size, 1, none⟩) hqX).trans i1⟩
  have KXH := Lib.hid KX
  have gXX := Gr.refl X
  have gXd : Gr X X.drew := Below.drew gXX
  have CSX := Lib.hid (fun u (g : Gr X u) => (CS.out u _ (stars_gr (frs_rdl _ _ _ _ _ _ _ _ _ _) H5.out g)).mono fun e w' (h : _ ∧ Gr u w') => (⟨h.1, g.trans h.2⟩ : _ ∧ Gr X w'))
  clear KX
  go_region_held3 (fun w' => w'.cell? ⟨x, 5, none⟩ = some (.int .i64 m.x.left) ∧ w'.cell? ⟨x, 7, none⟩ = some va ∧ w'.cell? ⟨u4.heap.size, 0, none⟩ = some (.int .i64 ec) ∧ w'.cell? ⟨u4.heap.size, 1, none⟩ = some (.int .u32 em)) (first | exact KXH.out _ gXd | exact KXH.out _ (by assumption) | assumption | go_keep)
    ((first
      | (go_at_call 60; (with_reducible refine (CSX.out _ (by assumption)).mono ?_); rintro e s1 ⟨rfl, gs1⟩)))
  have CW := Lib.hid (rr_wrong x D P m.asked 6 s1 _ ⟨_, _, stars_gr (frs_rdl _ _ _ _ _ _ _ _ _ _) H5.out gs1⟩)
  have NW := Lib.hid (N5.out.trans (Nx.gr gs1))
  go_wp2_with fail
  refine CW.out.mono ?_; rintro e w9 hd
  obtain ⟨rfl, B9, h9, n9⟩ := hd
  have H9 := Lib.hid h9
  have N9 := Lib.hid (NW.out.trans n9)
  clear h9 n9 CW
  go_wp2_with fail
  exact bodyPost_ret (v := ansV (noneA 6)) (by simp [results, Tryz.results21, go_sem, ansV, noneA]) rfl ⟨rfl, B9, H9.out, N9.out⟩
end Go.Proofs.YtojlceoeacebmaaGreat
/- The document's reader: Next, where a read tells a block. -/
namespace Go.Proofs.YtojlceoeacebmaaGreat
open Go.RowKit FsPlain CrcPlain OctPlain FramePlain RecPlain RdPlain
set_option linter.unusedVariables false
set_option linter.unusedSimpArgs false
set_option maxRecDepth 20000
theorem rdl_apart {x D P b off n k : Nat} {s : St} {bu : Bu} {c : Array Value} {va : Value} {queue all : List ByteArray} {w : World} {B : Nat → Prop} (h : stars (rdl x D P s bu c (.slice (some ⟨b, off, none⟩) n k) va queue all) w B) : b ≠ x := by
  obtain ⟨B1, B2, p, ⟨B3, B4, q, _, _, e2⟩, a, _⟩ := h
  intro hbx
  exact a b ((p.2 b).2 hbx) ((e2 b).2 (.inl (q.2.1 b off n k rfl)))
theorem strs_cells {w : World} {b off : Nat} {l : List ByteArray} (h : SRow w b off l) : ∀ j u, (strs l)[j]? = some u → w.cell? ((⟨b, off, none⟩ : Addr).add j) = some u := fun j u hu => by
  unfold strs at hu
  rw [List.getElem?_map] at hu
  obtain ⟨x, hx, rfl⟩ := Option.map_eq_some_iff.1 hu
  have ea : Addr.add ⟨b, off, none⟩ j = ⟨b, off + j, none⟩ := by by_cases h : j = 0 <;> simp [Addr.add, h]
  rw [ea]; exact h.2 j x hx
theorem strs_one (l : List ByteArray) : ∀ u ∈ strs l, u.oneCell' = true := fun u hu => by
  unfold strs at hu
  obtain ⟨x, _, rfl⟩ := List.mem_map.1 hu
  rfl
/-- The queue is a new row. -/
theorem rdl_que {x D P : Nat} {s : St} {b : Bu} {c : Array Value} {vq va v : Value} {queue all l : List ByteArray} {w w' : World} {B Bn : Nat → Prop} (h : stars (rdl x D P s b c vq va queue all) w B) (g : Gr w w') (q : QueA v l w' Bn) (hn : ∀ b, Bn b → w.heap.size ≤ b) :
    ∃ B', stars (rdl x D P s b c v va l all) w' B' ∧ Nx B w B' w' :=
  step_at (Q := QueA v l) 1 rfl (frs_rdl _ _ _ _ _ _ _ _ _ _) h fun B1 h1 => ⟨Bn, q, Only.ofGr g, fun b hb => .inr (hn b hb)⟩
/-- More is behind all. -/
theorem rdl_all {x D P : Nat} {s : St} {b : Bu} {c : Array Value} {vq va v' : Value} {queue all l : List ByteArray} {w w' : World} {B : Nat → Prop} {n k : Nat} (h : stars (rdl x D P s b c vq va queue all) w B) (hn : all.length = n) (hk : l.length = k) (hown : w'.ownsRow 0 9 1 v' (n + k) (strs all ++ strs l)) (hg : w.grownBy w' va.ownBlock) (hat : v'.ownBlock = va.ownBlock ∨ v'.ownBlock = some w.heap.size) :
    ∃ B', stars (rdl x D P s b c vq v' queue (all ++ l)) w' B' ∧ Nx B w B' w' :=
  step_at (Q := RowA v' (all ++ l)) 2 rfl (frs_rdl _ _ _ _ _ _ _ _ _ _) h fun B1 h1 => by
    have := rowE_next h1 (Gr.refl w) hown hg hat
    unfold RowA
    rwa [List.length_append, hn, hk, show strs (all ++ l) = strs all ++ strs l by simp [strs]]
set_option maxHeartbeats 4000000 in
theorem rr_fill_block (x D P : Nat) (m : N3) (hok : m.ok) (ho : m.x.opn = true) (hq : m.x.queue = []) (hc : m.s.calls ≤ 1000000000000) (hal : m.x.all.length ≤ 100000) (htl : m.x.told ≤ 100000) (he : errN m = 0) (hg : gB m.x.size (bytesN m) = true) (hsh : m.x.short = false) (w : World) (B : Nat → Prop) (h : RR3 x D P m w B) :
    Calls Tryz.prog 21 #[.pointer (some ⟨x, 0, none⟩)] w (Does w B (RR3 x D P (popN (m.asked.filled (bytesN m))).1) (ansV (popN (m.asked.filled (bytesN m))).2)) := by
  obtain ⟨vq, va, h⟩ := h
  obtain ⟨_, hqa, _⟩ := part_at 1 rfl h
  obtain ⟨⟨qa, qc, rfl, _⟩, _⟩ := hqa
  have hql : m.x.queue.length = 0 := by rw [hq]; rfl
  rw [hql] at h
  have hb := rdl_blk h
  have hz := hok.z
  have hs2 : 1 ≤ m.x.size ∧ m.x.size ≤ 64 := by simpa [sizeB] using hz
  obtain ⟨ai, ai2⟩ := ask_int m.x hz
  obtain ⟨t, ht⟩ : ∃ t, t = bytesN m := ⟨_, rfl⟩
  obtain ⟨er, her⟩ : ∃ er, er = errN m := ⟨_, rfl⟩
  obtain ⟨ak, hak⟩ : ∃ ak : Nat, ak = askN m.x := ⟨_, rfl⟩
  obtain ⟨rm, hrm⟩ : ∃ rm, rm = roomN m.x.size := ⟨_, rfl⟩
  have c9 : w.cell? ⟨x, 9, none⟩ = some (.bool true) := by rw [cells_at hb, ← ho]; rfl
  have c6 : w.cell? ⟨x, 6, none⟩ = some (.slice qa 0 qc) := by rw [cells_at hb]; rfl
  have K0 : ∀ u, Gr w u → u.cell? ⟨x, 0, none⟩ = some (.pointer (some ⟨D, 0, none⟩)) ∧ u.cell? ⟨x, 2, none⟩ = some (.string m.x.nm) ∧ u.cell? ⟨x, 4, none⟩ = some (.int .i64 m.x.pos) ∧ u.cell? ⟨x, 5, none⟩ = some (.int .i64 m.x.left) ∧ u.cell? ⟨x, 3, none⟩ = some (.int .i64 m.x.size) := fun u g => by
    have hb := rdl_blk (stars_gr (frs_rdl _ _ _ _ _ _ _ _ _ _) h g)
    exact ⟨by rw [cells_at hb]; rfl, by rw [cells_at hb]; rfl, by rw [cells_at hb]; rfl, by rw [cells_at hb]; rfl, by rw [cells_at hb]; rfl⟩
  have CR : ∀ u, Gr w u → Calls Tryz.prog 46 #[.pointer (some ⟨D, 0, none⟩), .string m.x.nm, .int .i64 (m.x.pos : Int), .int .i64 (ak : Nat)] u fun e w' => e = .returned (.tuple #[.string t, .int .i64 er]) ∧ (∃ B', stars (rdl x D P m.s.call m.b (rdcells D P m.x (.slice qa 0 qc) va) (.slice qa 0 qc) va m.x.queue m.x.all) w' B' ∧ Nx B w B' w') ∧ (w'.cell? ⟨x, 0, none⟩ = some (.pointer (some ⟨D, 0, none⟩)) ∧ w'.cell? ⟨x, 2, none⟩ = some (.string m.x.nm) ∧ w'.cell? ⟨x, 4, none⟩ = some (.int .i64 m.x.pos) ∧ w'.cell? ⟨x, 5, none⟩ = some (.int .i64 m.x.left) ∧ w'.cell? ⟨x, 3, none⟩ = some (.int .i64 m.x.size)) := fun u g => by
    rw [ht, her, hak]
    refine (rr_read x D P m hok hc _ _ u B (stars_gr (frs_rdl _ _ _ _ _ _ _ _ _ _) h g)).mono ?_
    rintro e w' ⟨he, B', h', n'⟩
    have hb := rdl_blk h'
    exact ⟨he, ⟨B', h', (Nx.gr g).trans n'⟩, by rw [cells_at hb]; rfl, by rw [cells_at hb]; rfl, by rw [cells_at hb]; rfl, by rw [cells_at hb]; rfl, by rw [cells_at hb]; rfl⟩
  have CM : ∀ u, Gr w u → Calls Tryz.prog 56 #[.int .i64 m.x.size] u fun e w' => e = .returned (.int .i64 rm) ∧ Gr w w' := fun u g => by
    rw [hrm]
    exact (rroom_c m.x.size (by unfold I64; omega) u).mono fun e w' ⟨he, hw⟩ => ⟨he, by rw [← hw]; exact g⟩
  rw [← hrm, ← hak] at ai
  have hmax : max 17 rm = rm ∨ max 17 rm = 17 := by omega
  have KS := Lib.hid K0
  have CRH := Lib.hid CR
  have CMH := Lib.hid CM
  have gU := Gr.refl w
  have gUd : Gr w w.drew := Below.drew gU
  have HOK := Lib.hid hok
  have HQ := Lib.hid hq
  have HO := Lib.hid ho
  have he0 : er = 0 := by rw [her]; exact he
  have hts : t.size = ak := by rw [ht, hak]; exact bytesN_size he
  have CG := Lib.hid (fun u => rfget_c t m.x.size (by unfold I64; omega) u (by omega))
  have CE := Lib.hid (fun u => rgetend_c t u)
  rw [← ht] at hg ⊢
  obtain ⟨gb, hgb⟩ : ∃ gb, gb = gB m.x.size t := ⟨_, rfl⟩
  obtain ⟨gn, hgn⟩ : ∃ gn, gn = gN m.x.size t := ⟨_, rfl⟩
  obtain ⟨gl, hgl⟩ : ∃ gl, gl = gL m.x.size t := ⟨_, rfl⟩
  obtain ⟨eb, heb⟩ : ∃ eb, eb = eB t := ⟨_, rfl⟩
  obtain ⟨ec, hec⟩ : ∃ ec, ec = eC t := ⟨_, rfl⟩
  obtain ⟨em, hem⟩ : ∃ em, em = eM t := ⟨_, rfl⟩
  unfold FGot at CG
  unfold EGot at CE
  rw [← hgb, ← hgn, ← hgl] at CG
  rw [← heb, ← hec, ← hem] at CE
  rw [← hgb] at hg
  subst hg
  have HSH := Lib.hid hsh
  have hgs := gL_size hgb.symm
  rw [← hgl] at hgs
  obtain ⟨_, gnn, hgnn, hgnl, _⟩ := get_is hgb.symm
  have hgq : gn = (gnn : Int) := hgn.trans hgnn
  subst hgq
  have HGN := Lib.hid (hgn.symm)
  have HGL := Lib.hid hgl.symm
  have HGNL := Lib.hid (show gnn ≤ m.x.left by have := ask_left m.x; rw [← hak] at this; omega)
  have HG4 := Lib.hid hgs.2.1
  have HGNE := Lib.hid (show gl ≠ [] from fun e => by have := hgs.1; rw [e] at this; simp at this)
  clear hsh hgs hgnn hgnl
  subst he0
  clear h hb hz K0 CR CM ht hak hrm ho hq hok her he hgn hgl hgb heb hec hem hts
  go_enter Tryz.func21, Tryz.ntmps21
  go_wp2_with fail
  go_region_held3 (fun w' => w'.cell? ⟨x, 0, none⟩ = some (.pointer (some ⟨D, 0, none⟩)) ∧ w'.cell? ⟨x, 2, none⟩ = some (.string m.x.nm) ∧ w'.cell? ⟨x, 4, none⟩ = some (.int .i64 m.x.pos) ∧ w'.cell? ⟨x, 5, none⟩ = some (.int .i64 m.x.left) ∧ w'.cell? ⟨x, 3, none⟩ = some (.int .i64 m.x.size)) (first | exact KS.out _ gUd | exact KS.out _ (by assumption) | assumption | go_keep)
    ((first
      | (go_at_call 56; (with_reducible refine (CMH.out _ (by assumption)).mono ?_); rintro e t1 ⟨rfl, g1⟩)
      | (go_at_call 46; refine (CRH.out _ (by assumption)).mono ?_; rintro e t2 ⟨rfl, hst, hks⟩)))
  obtain ⟨B2, h2, n2⟩ := hst
  have H2 := Lib.hid h2
  have N2 := Lib.hid n2
  clear h2 n2 hks
  go_wp2_with fail
  refine (CG.out _).mono ?_; rintro e u3 ⟨v3, rfl, ho3, g3⟩
  have hl3 := ho3.lt
  obtain ⟨B3, h3, n3⟩ := rdl_que H2.out g3 (que_new ho3).1 (que_new ho3).2
  have HO3 := Lib.hid ho3
  have H3 := Lib.hid h3
  have NN3 := Lib.hid (N2.out.trans n3)
  clear h3 n3 ho3 hl3 g3
  go_wp2_with fail
  refine (CE.out _).mono ?_; rintro e u4 ⟨rfl, g4⟩
  have h4 := stars_gr (frs_rdl _ _ _ _ _ _ _ _ _ _) H3.out g4
  have H4 := Lib.hid h4
  have N4 := Lib.hid (NN3.out.trans (Nx.gr g4))
  have hb4 := rdl_blk h4
  have hxl4 := lt_of_block hb4
  have w12 : u4.cell? ⟨x, 12, none⟩ = some (.bool m.x.short) := by rw [cells_at hb4]; rfl
  have w5' : u4.cell? ⟨x, 5, none⟩ = some (.int .i64 m.x.left) := by rw [cells_at hb4]; rfl
  have w7 : u4.cell? ⟨x, 7, none⟩ = some va := by rw [cells_at hb4]; rfl
  obtain ⟨X, hX⟩ : ∃ X, X = u4.alloc (.cells #[.int .i64 ec, .int .u32 em] 51) := ⟨_, rfl⟩
  have gX : Gr u4 X := by rw [hX]; exact (Gr.refl u4).alloc (Nat.le_refl _) _
  have HX := Lib.hid hX
  have GX := Lib.hid gX
  have h5 := stars_gr (frs_rdl _ _ _ _ _ _ _ _ _ _) h4 gX
  have H5 := Lib.hid h5
  have N5 := Lib.hid (N4.out.trans (Nx.gr gX))
  have G4 := Lib.hid g4
  clear h4 h5 g4 hb4 hX gX
  go_wp2_with fail
  rw [← HX.out]
  have x12 : X.cell? ⟨x, 12, none⟩ = some (.bool false) := by have := (GX.out.cell (p := ⟨x, 12, none⟩) hxl4).trans w12; rw [HSH.out] at this; exact this
  go_quiet (fail)
  obtain ⟨Y, hY⟩ : ∃ Y, Y = X.drewN nq := ⟨_, rfl⟩
  have gY : Gr X Y := by rw [hY]; exact grN X nq
  have y0 := stars_gr (frs_rdl _ _ _ _ _ _ _ _ _ _) H5.out gY
  have NY := Lib.hid (N5.out.trans (Nx.gr gY))
  have hxlX : x < X.heap.size := Nat.lt_of_lt_of_le hxl4 GX.out.size
  have x12' := (gY.cell (p := ⟨x, 12, none⟩) hxlX).trans x12
  rw [← hY]
  clear hY gY x12 w12 w5' w7 hxl4
  -- the row of what was read, and of all
  obtain ⟨_, hqa, _⟩ := part_at 1 rfl y0
  obtain ⟨b3, off3, c3, rfl, hc3, hr3, _⟩ := que_open hqa HGNE.out
  obtain ⟨_, hra, _⟩ := part_at 2 rfl y0
  obtain ⟨sa, cs, rfl, _⟩ := rowE_shape hra
  obtain ⟨k, hk⟩ : ∃ k, m.x.all.length = k := ⟨_, rfl⟩
  obtain ⟨n3, hn3⟩ : ∃ n3, gl.length = n3 := ⟨_, rfl⟩
  obtain ⟨sh, hsh⟩ : ∃ sh, decide ((n3 : Int) < 4) = sh := ⟨_, rfl⟩
  have HK := Lib.hid hk
  have HN3 := Lib.hid hn3
  have HSH2 := Lib.hid hsh
  rw [hk] at hal y0
  rw [hn3] at hc3 y0 ⊢
  have hn34 : n3 ≤ 4 := by have := HG4.out; omega
  have hb0 := rdl_blk y0
  have hxlY := lt_of_block hb0
  have f12 := cells_free hb0 12
  have k6 : Y.cell? ⟨x, 6, none⟩ = some (.slice qa 0 qc) := by rw [cells_at hb0]; rfl
  have f6 := cells_free hb0 6
  have k7 : Y.cell? ⟨x, 7, none⟩ = some (.slice sa k cs) := by rw [cells_at hb0]; rfl
  obtain ⟨C1, a1, b1⟩ := rdl_set (c' := rdcells D P { m.x with short := sh } (.slice qa 0 qc) (.slice sa k cs)) 12 (.bool sh) y0 rfl
  obtain ⟨C2, a2, b2⟩ := rdl_set (c' := rdcells D P { m.x with short := sh } (.slice (some ⟨b3, off3, none⟩) n3 c3) (.slice sa k cs)) 6 (.slice (some ⟨b3, off3, none⟩) n3 c3) a1 rfl
  have N2' := Lib.hid ((NY.out.trans b1).trans b2)
  obtain ⟨i0, hi', hz0, hz1, hz2⟩ := info_parts infoS
  obtain ⟨_, hra2, _⟩ := part_at 2 rfl a2
  obtain ⟨_, hqa2, _⟩ := part_at 1 rfl a2
  have RW := Lib.hid hra2.1
  obtain ⟨b4, off4, c4', e4, _, hr4, _⟩ := que_open hqa2 HGNE.out
  have A2 := Lib.hid a2
  have SR := Lib.hid hr4
  simp only [Value.slice.injEq, Option.some.injEq, Addr.mk.injEq, and_true] at e4
  obtain ⟨⟨rfl, rfl⟩, -, rfl⟩ := e4
  clear a1 a2 b1 b2 hra hra2 hqa hqa2 hr3 hr4 y0 hb0 hk hn3
  go_wp2_with (at_builtin; refine wpList_append_own_at _ rfl _ _ 54 rfl 0 9 i0 (.string ⟨#[]⟩) 1 16 Tryz.underlying54 hi' hz0 hz1 hz2 rfl (by decide) (.slice sa k cs) k (strs m.x.all) rfl (by have := RW.out; rw [HK.out] at this; exact this) ⟨b3, off3, none⟩ n3 c3 (strs gl) rfl (by rw [show (strs gl).length = gl.length by simp [strs], HN3.out]; simp) (strs_cells SR.out) (strs_one gl) (by unfold maxLen; omega) (by omega) (Nat.zero_le _) ?_)
  intro v5 w5 ho5 hg5 _ ha5
  obtain ⟨D1, d1, g1⟩ := rdl_all A2.out HK.out HN3.out ho5 hg5 (by simpa [World.setCell] using ha5)
  obtain ⟨_, hr5, _⟩ := part_at 2 rfl d1
  obtain ⟨sa5, c5, rfl, _⟩ := rowE_shape hr5
  obtain ⟨k5, hk5⟩ : ∃ k5, (m.x.all ++ gl).length = k5 := ⟨_, rfl⟩
  have HK5 := Lib.hid hk5
  rw [hk5] at d1 ⊢
  obtain ⟨y, hy⟩ : ∃ y : Rs, y = { m.x with short := sh, queue := gl, all := m.x.all ++ gl, pos := m.x.pos + gnn, left := m.x.left - gnn } := ⟨_, rfl⟩
  obtain ⟨pN, hpN⟩ : ∃ pN, pN = m.x.pos + gnn := ⟨_, rfl⟩
  obtain ⟨lN, hlN⟩ : ∃ lN, lN = m.x.left - gnn := ⟨_, rfl⟩
  have hfit := HOK.out.fit
  have hgl' := HGNL.out
  have q1 : (m.x.pos : Int) + (gnn : Int) = (pN : Int) := by omega
  have q2 : (m.x.left : Int) - (gnn : Int) = (lN : Int) := by omega
  have q3 : (pN : Int) ≤ 16777216 := by omega
  have q4 : (lN : Int) ≤ 16777216 := by omega
  have hb5 := rdl_blk d1
  have hxl5 := lt_of_block hb5
  have z4 : w5.cell? ⟨x, 4, none⟩ = some (.int .i64 m.x.pos) := by rw [cells_at hb5]; rfl
  have z5 : w5.cell? ⟨x, 5, none⟩ = some (.int .i64 m.x.left) := by rw [cells_at hb5]; rfl
  have z6 : w5.cell? ⟨x, 6, none⟩ = some (.slice (some ⟨b3, off3, none⟩) n3 c3) := by rw [cells_at hb5]; rfl
  have z7 : w5.cell? ⟨x, 7, none⟩ = some (.slice sa k cs) := by rw [cells_at hb5]; rfl
  have z8 : w5.cell? ⟨x, 8, none⟩ = some (.int .i64 m.x.told) := by rw [cells_at hb5]; rfl
  have p4 := cells_free hb5 4
  have p5 := cells_free hb5 5
  have p6 := cells_free hb5 6
  have p7 := cells_free hb5 7
  have p8 := cells_free hb5 8
  have hne3 := rdl_apart d1
  obtain ⟨r, l, hrl⟩ := List.exists_cons_of_ne_nil HGNE.out
  obtain ⟨_, hq5, _⟩ := part_at 1 rfl d1
  obtain ⟨b6, off6, c6', e6, _, hr6, _⟩ := que_open hq5 HGNE.out
  simp only [Value.slice.injEq, Option.some.injEq, Addr.mk.injEq, and_true] at e6
  obtain ⟨⟨rfl, rfl⟩, -, rfl⟩ := e6
  have zr : w5.cell? ⟨b3, off3, none⟩ = some (.string r) := by have := hr6.2 0 r (by rw [hrl]; rfl); simpa using this
  obtain ⟨D2, d2, g2⟩ := rdl_set (c' := rdcells D P { m.x with short := sh } (.slice (some ⟨b3, off3, none⟩) n3 c3) (.slice sa5 k5 c5)) 7 (.slice sa5 k5 c5) d1 rfl
  obtain ⟨D3, d3, g3⟩ := rdl_set (c' := rdcells D P { m.x with short := sh, pos := pN } (.slice (some ⟨b3, off3, none⟩) n3 c3) (.slice sa5 k5 c5)) 4 (.int .i64 (pN : Nat)) d2 rfl
  obtain ⟨D4, d4, g4⟩ := rdl_set (c' := rdcells D P { m.x with short := sh, pos := pN, left := lN } (.slice (some ⟨b3, off3, none⟩) n3 c3) (.slice sa5 k5 c5)) 5 (.int .i64 (lN : Nat)) d3 rfl
  obtain ⟨Z, hZ⟩ : ∃ Z, Z = ((w5.setCell ⟨x, 7, none⟩ (.slice sa5 k5 c5)).setCell ⟨x, 4, none⟩ (.int .i64 (pN : Nat))).setCell ⟨x, 5, none⟩ (.int .i64 (lN : Nat)) := ⟨_, rfl⟩
  have hyc : rdcells D P { m.x with short := sh, pos := pN, left := lN } (.slice (some ⟨b3, off3, none⟩) n3 c3) (.slice sa5 k5 c5) = rdcells D P y (.slice (some ⟨b3, off3, none⟩) n3 c3) (.slice sa5 k5 c5) := by rw [hy, hpN, hlN]; rfl
  have hyq : y.queue = gl := by rw [hy]
  have hya : y.all = m.x.all ++ gl := by rw [hy]
  rw [← hZ, hyc, ← hya, ← hyq] at d4
  rw [← hZ] at g4
  have hfi : m.asked.filled t = ⟨m.s.call, m.b, y⟩ := by
    unfold N3.filled N3.asked
    have hdc : decide (gl.length < 4) = decide ((gl.length : Int) < 4) := by rw [decide_eq_decide]; omega
    rw [hy, ← HSH2.out, ← HN3.out, HGL.out, HGN.out]
    simp only [hdc, Int.toNat_natCast]
  have hnl : n3 - 1 = l.length := by have := HN3.out; rw [hrl] at this; simp at this; omega
  have hn31 : 1 ≤ n3 := by have := HN3.out; rw [hrl] at this; simp at this; omega
  have PS := Lib.hid (fun a k' h1 h2 h3 => pop_step (t := (m.x.told : Int) + 1) d4 (hyq.trans hrl) a (n3 - 1) k' hnl h1 h2 h3 (by rw [hy]))
  have hv : (popN (m.asked.filled t)).2 = (r, true, 0) := by rw [hfi]; unfold popN; simp only [hyq, hrl]; rfl
  have hto : (popN (m.asked.filled t)).1 = ⟨m.s.call, m.b, { y with queue := y.queue.tail, told := y.told + 1 }⟩ := by rw [hfi]; rfl
  have HVV := Lib.hid hv
  have HNLL := Lib.hid hnl
  have HTO := Lib.hid hto
  have NZ := Lib.hid ((((N2'.out.trans g1).trans g2).trans g3).trans g4)
  have HZ := Lib.hid hZ
  have hn30 : (0 : Int) < (n3 : Int) := by omega
  clear d1 d2 d3 d4 g1 g2 g3 g4 hb5 hr5 hq5 hr6 hk5 hy hpN hlN hyc hyq hya hfi hv hto ho5 hg5 ha5 hZ hfit hgl' hrl hnl
  go_wp2_with fail
  · obtain ⟨B9, h9, n9⟩ := PS.out (some ⟨b3, off3, none⟩) 0 (by omega) (fun h => by have := HNLL.out; omega) (fun b' off' e => by simp at e; exact e.1.symm)
    rw [HVV.out, HTO.out, ← HZ.out]
    exact bodyPost_ret (v := ansV (r, true, 0)) (by simp [results, Tryz.results21, go_sem, ansV]) rfl ⟨rfl, B9, h9, NZ.out.trans n9⟩
  · obtain ⟨B9, h9, n9⟩ := PS.out (some ⟨b3, off3 + 1, none⟩) (c3 - 1) (by omega) (fun h => rfl) (fun b' off' e => by simp at e; exact e.1.symm)
    rw [HVV.out, HTO.out, ← HZ.out]
    exact bodyPost_ret (v := ansV (r, true, 0)) (by simp [results, Tryz.results21, go_sem, ansV]) rfl ⟨rfl, B9, h9, NZ.out.trans n9⟩
end Go.Proofs.YtojlceoeacebmaaGreat
