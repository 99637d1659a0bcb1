/- In one text: Rrd3. -/
import Derived.Test.YtojlceoeacebmaaGreatP17
import Derived.Test.YtojlceoeacebmaaGreatP04
import Derived.Test.YtojlceoeacebmaaGreatP05
import Derived.Test.YtojlceoeacebmaaGreatP11
import Derived.Test.YtojlceoeacebmaaGreatP00
import Derived.Deep.RegionHeld3
/- The document's reader: Next, of a closed one; what a read comes to. -/
namespace Go.Proofs.YtojlceoeacebmaaGreat
open Go.RowKit FsPlain CrcPlain OctPlain FramePlain RecPlain RdPlain
set_option linter.unusedVariables false
set_option linter.unusedSimpArgs false
set_option maxRecDepth 20000
theorem rr_closed (x D P : Nat) (m : N3) (ho : m.x.opn = false) (w : World) (B : Nat → Prop) (h : RR3 x D P m w B) :
    Calls Tryz.prog 21 #[.pointer (some ⟨x, 0, none⟩)] w (Does w B (RR3 x D P m) (ansV (noneA (if m.x.bad = true then 14 else 0)))) := by
  have H := Lib.hid h
  obtain ⟨vq, va, h⟩ := h
  have hb := rdl_blk h
  have c9 : w.cell? ⟨x, 9, none⟩ = some (.bool false) := by rw [cells_at hb, ← ho]; rfl
  have c10 : w.cell? ⟨x, 10, none⟩ = some (.bool m.x.bad) := by rw [cells_at hb]; rfl
  clear h hb ho
  cases hb : m.x.bad
  · rw [hb] at c10
    rw [if_neg (by decide)]
    clear hb
    go_enter Tryz.func21, Tryz.ntmps21
    go_wp2_with fail
    exact bodyPost_ret (v := ansV (noneA 0)) (by simp [results, Tryz.results21, go_sem, ansV, noneA]) rfl ⟨rfl, B, H.out, Nx.refl _ _⟩
  · rw [hb] at c10
    rw [if_pos rfl]
    clear hb
    go_enter Tryz.func21, Tryz.ntmps21
    go_wp2_with fail
    exact bodyPost_ret (v := ansV (noneA 14)) (by simp [results, Tryz.results21, go_sem, ansV, noneA]) rfl ⟨rfl, B, H.out, Nx.refl _ _⟩
/-- What is read is short. -/
theorem ask_int (x : Rs) (hz : sizeB x.size = true) : min (x.left : Int) (max 17 (roomN x.size)) = (askN x : Nat) ∧ askN x ≤ 261 := by
  have hs : 1 ≤ x.size ∧ x.size ≤ 64 := by simpa [sizeB] using hz
  have hr : roomN x.size = 5 + 4 * x.size := by unfold roomN; rw [if_pos hz]
  unfold askN
  rw [hr]
  constructor <;> omega
/-- The read of the next bytes. -/
theorem rr_read (x D P : Nat) (m : N3) (hok : m.ok) (hc : m.s.calls ≤ 1000000000000) (vq va : Value) (w : World) (B : Nat → Prop) (h : stars (rdl x D P m.s m.b (rdcells D P m.x vq va) vq va m.x.queue m.x.all) w B) :
    Calls Tryz.prog 46 #[.pointer (some ⟨D, 0, none⟩), .string m.x.nm, .int .i64 (m.x.pos : Int), .int .i64 (askN m.x : Nat)] w (Does w B (stars (rdl x D P m.s.call m.b (rdcells D P m.x vq va) vq va m.x.queue m.x.all)) (.tuple #[.string (bytesN m), .int .i64 (errN m)])) := by
  have hf := hok.fit
  have := does_at (f := 46) (Q := RDiskA D m.s.call) 3 rfl (frs_rdl _ _ _ _ _ _ _ _ _ _) h fun B2 h2 => r_read D m.s m.x.nm m.x.pos (askN m.x) hok.n1 hok.n2 hc (by omega) (by have := (ask_int m.x hok.z).2; omega) w B2 h2
  exact this
set_option maxHeartbeats 4000000 in
theorem rr_fill_err (x D P : Nat) (m : N3) (hok : m.ok) (ho : m.x.opn = true) (hq : m.x.queue = []) (hc : m.s.calls ≤ 1000000000000) (he : ¬ errN m = 0) (w : World) (B : Nat → Prop) (h : RR3 x D P m w B) :
    Calls Tryz.prog 21 #[.pointer (some ⟨x, 0, none⟩)] w (Does w B (RR3 x D P (wrongN m.asked)) (ansV (noneA (errN m)))) := by
  obtain ⟨vq, va, h⟩ := h
  obtain ⟨_, hqa, _⟩ := part_at 1 rfl h
  obtain ⟨⟨qa, qc, rfl, _⟩, _⟩ := hqa
  have hql : m.x.queue.length = 0 := by rw [hq]; rfl
  rw [hql] at h
  have hb := rdl_blk h
  have hz := hok.z
  have hs2 : 1 ≤ m.x.size ∧ m.x.size ≤ 64 := by simpa [sizeB] using hz
  obtain ⟨ai, ai2⟩ := ask_int m.x hz
  obtain ⟨t, ht⟩ : ∃ t, t = bytesN m := ⟨_, rfl⟩
  obtain ⟨er, her⟩ : ∃ er, er = errN m := ⟨_, rfl⟩
  obtain ⟨ak, hak⟩ : ∃ ak : Nat, ak = askN m.x := ⟨_, rfl⟩
  obtain ⟨rm, hrm⟩ : ∃ rm, rm = roomN m.x.size := ⟨_, rfl⟩
  have c9 : w.cell? ⟨x, 9, none⟩ = some (.bool true) := by rw [cells_at hb, ← ho]; rfl
  have c6 : w.cell? ⟨x, 6, none⟩ = some (.slice qa 0 qc) := by rw [cells_at hb]; rfl
  have K0 : ∀ u, Gr w u → u.cell? ⟨x, 0, none⟩ = some (.pointer (some ⟨D, 0, none⟩)) ∧ u.cell? ⟨x, 2, none⟩ = some (.string m.x.nm) ∧ u.cell? ⟨x, 4, none⟩ = some (.int .i64 m.x.pos) ∧ u.cell? ⟨x, 5, none⟩ = some (.int .i64 m.x.left) ∧ u.cell? ⟨x, 3, none⟩ = some (.int .i64 m.x.size) := fun u g => by
    have hb := rdl_blk (stars_gr (frs_rdl _ _ _ _ _ _ _ _ _ _) h g)
    exact ⟨by rw [cells_at hb]; rfl, by rw [cells_at hb]; rfl, by rw [cells_at hb]; rfl, by rw [cells_at hb]; rfl, by rw [cells_at hb]; rfl⟩
  have CR : ∀ u, Gr w u → Calls Tryz.prog 46 #[.pointer (some ⟨D, 0, none⟩), .string m.x.nm, .int .i64 (m.x.pos : Int), .int .i64 (ak : Nat)] u fun e w' => e = .returned (.tuple #[.string t, .int .i64 er]) ∧ (∃ B', stars (rdl x D P m.s.call m.b (rdcells D P m.x (.slice qa 0 qc) va) (.slice qa 0 qc) va m.x.queue m.x.all) w' B' ∧ Nx B w B' w') ∧ (w'.cell? ⟨x, 0, none⟩ = some (.pointer (some ⟨D, 0, none⟩)) ∧ w'.cell? ⟨x, 2, none⟩ = some (.string m.x.nm) ∧ w'.cell? ⟨x, 4, none⟩ = some (.int .i64 m.x.pos) ∧ w'.cell? ⟨x, 5, none⟩ = some (.int .i64 m.x.left) ∧ w'.cell? ⟨x, 3, none⟩ = some (.int .i64 m.x.size)) := fun u g => by
    rw [ht, her, hak]
    refine (rr_read x D P m hok hc _ _ u B (stars_gr (frs_rdl _ _ _ _ _ _ _ _ _ _) h g)).mono ?_
    rintro e w' ⟨he, B', h', n'⟩
    have hb := rdl_blk h'
    exact ⟨he, ⟨B', h', (Nx.gr g).trans n'⟩, by rw [cells_at hb]; rfl, by rw [cells_at hb]; rfl, by rw [cells_at hb]; rfl, by rw [cells_at hb]; rfl, by rw [cells_at hb]; rfl⟩
  have CM : ∀ u, Gr w u → Calls Tryz.prog 56 #[.int .i64 m.x.size] u fun e w' => e = .returned (.int .i64 rm) ∧ Gr w w' := fun u g => by
    rw [hrm]
    exact (rroom_c m.x.size (by unfold I64; omega) u).mono fun e w' ⟨he, hw⟩ => ⟨he, by rw [← hw]; exact g⟩
  rw [← hrm, ← hak] at ai
  have hmax : max 17 rm = rm ∨ max 17 rm = 17 := by omega
  have KS := Lib.hid K0
  have CRH := Lib.hid CR
  have CMH := Lib.hid CM
  have gU := Gr.refl w
  have gUd : Gr w w.drew := Below.drew gU
  have HOK := Lib.hid hok
  have HQ := Lib.hid hq
  have HO := Lib.hid ho
  have he0 : ¬ er = 0 := by rw [her]; exact he
  have t1 : (er == 0) = false := by simpa using he0
  have t2 : (er != 0) = true := by simpa using he0
  rw [← her]
  clear h hb hz K0 CR CM ht hak hrm ho hq hok her he he0
  go_enter Tryz.func21, Tryz.ntmps21
  go_wp2_with fail
  go_region_held3 (fun w' => w'.cell? ⟨x, 0, none⟩ = some (.pointer (some ⟨D, 0, none⟩)) ∧ w'.cell? ⟨x, 2, none⟩ = some (.string m.x.nm) ∧ w'.cell? ⟨x, 4, none⟩ = some (.int .i64 m.x.pos) ∧ w'.cell? ⟨x, 5, none⟩ = some (.int .i64 m.x.left) ∧ w'.cell? ⟨x, 3, none⟩ = some (.int .i64 m.x.size)) (first | exact KS.out _ gUd | exact KS.out _ (by assumption) | assumption | go_keep)
    ((first
      | (go_at_call 56; (with_reducible refine (CMH.out _ (by assumption)).mono ?_); rintro e t1 ⟨rfl, g1⟩)
      | (go_at_call 46; refine (CRH.out _ (by assumption)).mono ?_; rintro e t2 ⟨rfl, hst, hks⟩)))
  obtain ⟨B2, h2, n2⟩ := hst
  have H2 := Lib.hid h2
  have N2 := Lib.hid n2
  clear h2 n2 hks
  have CW := Lib.hid (rr_wrong x D P m.asked er _ B2 ⟨_, _, H2.out⟩)
  go_wp2_with fail
  refine CW.out.mono ?_; rintro e w5 hd
  obtain ⟨rfl, B5, h5, n5⟩ := hd
  have H5 := Lib.hid h5
  have N5 := Lib.hid (N2.out.trans n5)
  clear h5 n5 CW
  go_wp2_with fail
  exact bodyPost_ret (v := ansV (noneA er)) (by simp [results, Tryz.results21, go_sem, ansV, noneA]) rfl ⟨rfl, B5, H5.out, N5.out⟩
set_option maxHeartbeats 4000000 in
theorem rr_fill_none (x D P : Nat) (m : N3) (hok : m.ok) (ho : m.x.opn = true) (hq : m.x.queue = []) (hc : m.s.calls ≤ 1000000000000) (he : errN m = 0) (hg : gB m.x.size (bytesN m) = false) (he2 : eB (bytesN m) = false) (w : World) (B : Nat → Prop) (h : RR3 x D P m w B) :
    Calls Tryz.prog 21 #[.pointer (some ⟨x, 0, none⟩)] w (Does w B (RR3 x D P (wrongN m.asked)) (ansV (noneA 6))) := by
  obtain ⟨vq, va, h⟩ := h
  obtain ⟨_, hqa, _⟩ := part_at 1 rfl h
  obtain ⟨⟨qa, qc, rfl, _⟩, _⟩ := hqa
  have hql : m.x.queue.length = 0 := by rw [hq]; rfl
  rw [hql] at h
  have hb := rdl_blk h
  have hz := hok.z
  have hs2 : 1 ≤ m.x.size ∧ m.x.size ≤ 64 := by simpa [sizeB] using hz
  obtain ⟨ai, ai2⟩ := ask_int m.x hz
  obtain ⟨t, ht⟩ : ∃ t, t = bytesN m := ⟨_, rfl⟩
  obtain ⟨er, her⟩ : ∃ er, er = errN m := ⟨_, rfl⟩
  obtain ⟨ak, hak⟩ : ∃ ak : Nat, ak = askN m.x := ⟨_, rfl⟩
  obtain ⟨rm, hrm⟩ : ∃ rm, rm = roomN m.x.size := ⟨_, rfl⟩
  have c9 : w.cell? ⟨x, 9, none⟩ = some (.bool true) := by rw [cells_at hb, ← ho]; rfl
  have c6 : w.cell? ⟨x, 6, none⟩ = some (.slice qa 0 qc) := by rw [cells_at hb]; rfl
  have K0 : ∀ u, Gr w u → u.cell? ⟨x, 0, none⟩ = some (.pointer (some ⟨D, 0, none⟩)) ∧ u.cell? ⟨x, 2, none⟩ = some (.string m.x.nm) ∧ u.cell? ⟨x, 4, none⟩ = some (.int .i64 m.x.pos) ∧ u.cell? ⟨x, 5, none⟩ = some (.int .i64 m.x.left) ∧ u.cell? ⟨x, 3, none⟩ = some (.int .i64 m.x.size) := fun u g => by
    have hb := rdl_blk (stars_gr (frs_rdl _ _ _ _ _ _ _ _ _ _) h g)
    exact ⟨by rw [cells_at hb]; rfl, by rw [cells_at hb]; rfl, by rw [cells_at hb]; rfl, by rw [cells_at hb]; rfl, by rw [cells_at hb]; rfl⟩
  have CR : ∀ u, Gr w u → Calls Tryz.prog 46 #[.pointer (some ⟨D, 0, none⟩), .string m.x.nm, .int .i64 (m.x.pos : Int), .int .i64 (ak : Nat)] u fun e w' => e = .returned (.tuple #[.string t, .int .i64 er]) ∧ (∃ B', stars (rdl x D P m.s.call m.b (rdcells D P m.x (.slice qa 0 qc) va) (.slice qa 0 qc) va m.x.queue m.x.all) w' B' ∧ Nx B w B' w') ∧ (w'.cell? ⟨x, 0, none⟩ = some (.pointer (some ⟨D, 0, none⟩)) ∧ w'.cell? ⟨x, 2, none⟩ = some (.string m.x.nm) ∧ w'.cell? ⟨x, 4, none⟩ = some (.int .i64 m.x.pos) ∧ w'.cell? ⟨x, 5, none⟩ = some (.int .i64 m.x.left) ∧ w'.cell? ⟨x, 3, none⟩ = some (.int .i64 m.x.size)) := fun u g => by
    rw [ht, her, hak]
    refine (rr_read x D P m hok hc _ _ u B (stars_gr (frs_rdl _ _ _ _ _ _ _ _ _ _) h g)).mono ?_
    rintro e w' ⟨he, B', h', n'⟩
    have hb := rdl_blk h'
    exact ⟨he, ⟨B', h', (Nx.gr g).trans n'⟩, by rw [cells_at hb]; rfl, by rw [cells_at hb]; rfl, by rw [cells_at hb]; rfl, by rw [cells_at hb]; rfl, by rw [cells_at hb]; rfl⟩
  have CM : ∀ u, Gr w u → Calls Tryz.prog 56 #[.int .i64 m.x.size] u fun e w' => e = .returned (.int .i64 rm) ∧ Gr w w' := fun u g => by
    rw [hrm]
    exact (rroom_c m.x.size (by unfold I64; omega) u).mono fun e w' ⟨he, hw⟩ => ⟨he, by rw [← hw]; exact g⟩
  rw [← hrm, ← hak] at ai
  have hmax : max 17 rm = rm ∨ max 17 rm = 17 := by omega
  have KS := Lib.hid K0
  have CRH := Lib.hid CR
  have CMH := Lib.hid CM
  have gU := Gr.refl w
  have gUd : Gr w w.drew := Below.drew gU
  have HOK := Lib.hid hok
  have HQ := Lib.hid hq
  have HO := Lib.hid ho
  have he0 : er = 0 := by rw [her]; exact he
  have hts : t.size = ak := by rw [ht, hak]; exact bytesN_size he
  have CG := Lib.hid (fun u => rfget_c t m.x.size (by unfold I64; omega) u (by omega))
  have CE := Lib.hid (fun u => rgetend_c t u)
  rw [← ht] at hg he2
  obtain ⟨gb, hgb⟩ : ∃ gb, gb = gB m.x.size t := ⟨_, rfl⟩
  obtain ⟨gn, hgn⟩ : ∃ gn, gn = gN m.x.size t := ⟨_, rfl⟩
  obtain ⟨gl, hgl⟩ : ∃ gl, gl = gL m.x.size t := ⟨_, rfl⟩
  obtain ⟨eb, heb⟩ : ∃ eb, eb = eB t := ⟨_, rfl⟩
  obtain ⟨ec, hec⟩ : ∃ ec, ec = eC t := ⟨_, rfl⟩
  obtain ⟨em, hem⟩ : ∃ em, em = eM t := ⟨_, rfl⟩
  unfold FGot at CG
  unfold EGot at CE
  rw [← hgb, ← hgn, ← hgl] at CG
  rw [← heb, ← hec, ← hem] at CE
  rw [← hgb] at hg
  rw [← heb] at he2
  subst hg he2
  subst he0
  clear h hb hz K0 CR CM ht hak hrm ho hq hok her he hgn hgl hgb heb hec hem hts
  go_enter Tryz.func21, Tryz.ntmps21
  go_wp2_with fail
  go_region_held3 (fun w' => w'.cell? ⟨x, 0, none⟩ = some (.pointer (some ⟨D, 0, none⟩)) ∧ w'.cell? ⟨x, 2, none⟩ = some (.string m.x.nm) ∧ w'.cell? ⟨x, 4, none⟩ = some (.int .i64 m.x.pos) ∧ w'.cell? ⟨x, 5, none⟩ = some (.int .i64 m.x.left) ∧ w'.cell? ⟨x, 3, none⟩ = some (.int .i64 m.x.size)) (first | exact KS.out _ gUd | exact KS.out _ (by assumption) | assumption | go_keep)
    ((first
      | (go_at_call 56; (with_reducible refine (CMH.out _ (by assumption)).mono ?_); rintro e t1 ⟨rfl, g1⟩)
      | (go_at_call 46; refine (CRH.out _ (by assumption)).mono ?_; rintro e t2 ⟨rfl, hst, hks⟩)))
  obtain ⟨B2, h2, n2⟩ := hst
  have H2 := Lib.hid h2
  have N2 := Lib.hid n2
  clear h2 n2 hks
  go_wp2_with fail
  refine (CG.out _).mono ?_; rintro e u3 ⟨v3, rfl, ho3, g3⟩
  have hl3 := ho3.lt
  obtain ⟨B3, h3, n3⟩ : ∃ B', stars (rdl x D P m.s.call m.b (rdcells D P m.x (.slice qa 0 qc) va) (.slice qa 0 qc) va m.x.queue m.x.all) u3 B' ∧ Nx B2 t2 B' u3 := ⟨B2, stars_gr (frs_rdl _ _ _ _ _ _ _ _ _ _) H2.out g3, Nx.gr g3⟩
  have HO3 := Lib.hid ho3
  have H3 := Lib.hid h3
  have NN3 := Lib.hid (N2.out.trans n3)
  clear h3 n3 ho3 hl3 g3
  go_wp2_with fail
  refine (CE.out _).mono ?_; rintro e u4 ⟨rfl, g4⟩
  have h4 := stars_gr (frs_rdl _ _ _ _ _ _ _ _ _ _) H3.out g4
  have H4 := Lib.hid h4
  have N4 := Lib.hid (NN3.out.trans (Nx.gr g4))
  have hb4 := rdl_blk h4
  have hxl4 := lt_of_block hb4
  have w12 : u4.cell? ⟨x, 12, none⟩ = some (.bool m.x.short) := by rw [cells_at hb4]; rfl
  have w5' : u4.cell? ⟨x, 5, none⟩ = some (.int .i64 m.x.left) := by rw [cells_at hb4]; rfl
  have w7 : u4.cell? ⟨x, 7, none⟩ = some va := by rw [cells_at hb4]; rfl
  obtain ⟨X, hX⟩ : ∃ X, X = u4.alloc (.cells #[.int .i64 ec, .int .u32 em] 51) := ⟨_, rfl⟩
  have gX : Gr u4 X := by rw [hX]; exact (Gr.refl u4).alloc (Nat.le_refl _) _
  have HX := Lib.hid hX
  have GX := Lib.hid gX
  have h5 := stars_gr (frs_rdl _ _ _ _ _ _ _ _ _ _) h4 gX
  have H5 := Lib.hid h5
  have N5 := Lib.hid (N4.out.trans (Nx.gr gX))
  have G4 := Lib.hid g4
  clear h4 h5 g4 hb4 hX gX
  go_wp2_with fail
  rw [← HX.out]
  have x5 : X.cell? ⟨x, 5, none⟩ = some (.int .i64 m.x.left) := (GX.out.cell (p := ⟨x, 5, none⟩) hxl4).trans w5'
  have x12 : X.cell? ⟨x, 12, none⟩ = some (.bool m.x.short) := (GX.out.cell (p := ⟨x, 12, none⟩) hxl4).trans w12
  go_quiet (fail)
  have CW := Lib.hid (fun k => rr_wrong x D P m.asked 6 (X.drewN k) _ ⟨_, _, stars_gr (frs_rdl _ _ _ _ _ _ _ _ _ _) H5.out (grN X k)⟩)
  have NW := Lib.hid (fun k => N5.out.trans (Nx.gr (grN X k)))
  go_wp2_with fail
  refine (CW.out _).mono ?_; rintro e w5 hd
  obtain ⟨rfl, B5, h5, n5⟩ := hd
  have H6 := Lib.hid h5
  have N6 := Lib.hid ((NW.out _).trans n5)
  clear h5 n5 CW
  go_wp2_with fail
  exact bodyPost_ret (v := ansV (noneA 6)) (by simp [results, Tryz.results21, go_sem, ansV, noneA]) rfl ⟨rfl, B5, H6.out, N6.out⟩
set_option maxHeartbeats 4000000 in
theorem rr_fill_part (x D P : Nat) (m : N3) (hok : m.ok) (ho : m.x.opn = true) (hq : m.x.queue = []) (hc : m.s.calls ≤ 1000000000000) (he : errN m = 0) (hg : gB m.x.size (bytesN m) = false) (he2 : eB (bytesN m) = true) (hl : ¬ (bytesN m).size = m.x.left) (w : World) (B : Nat → Prop) (h : RR3 x D P m w B) :
    Calls Tryz.prog 21 #[.pointer (some ⟨x, 0, none⟩)] w (Does w B (RR3 x D P (wrongN m.asked)) (ansV (noneA 6))) := by
  obtain ⟨vq, va, h⟩ := h
  obtain ⟨_, hqa, _⟩ := part_at 1 rfl h
  obtain ⟨⟨qa, qc, rfl, _⟩, _⟩ := hqa
  have hql : m.x.queue.length = 0 := by rw [hq]; rfl
  rw [hql] at h
  have hb := rdl_blk h
  have hz := hok.z
  have hs2 : 1 ≤ m.x.size ∧ m.x.size ≤ 64 := by simpa [sizeB] using hz
  obtain ⟨ai, ai2⟩ := ask_int m.x hz
  obtain ⟨t, ht⟩ : ∃ t, t = bytesN m := ⟨_, rfl⟩
  obtain ⟨er, her⟩ : ∃ er, er = errN m := ⟨_, rfl⟩
  obtain ⟨ak, hak⟩ : ∃ ak : Nat, ak = askN m.x := ⟨_, rfl⟩
  obtain ⟨rm, hrm⟩ : ∃ rm, rm = roomN m.x.size := ⟨_, rfl⟩
  have c9 : w.cell? ⟨x, 9, none⟩ = some (.bool true) := by rw [cells_at hb, ← ho]; rfl
  have c6 : w.cell? ⟨x, 6, none⟩ = some (.slice qa 0 qc) := by rw [cells_at hb]; rfl
  have K0 : ∀ u, Gr w u → u.cell? ⟨x, 0, none⟩ = some (.pointer (some ⟨D, 0, none⟩)) ∧ u.cell? ⟨x, 2, none⟩ = some (.string m.x.nm) ∧ u.cell? ⟨x, 4, none⟩ = some (.int .i64 m.x.pos) ∧ u.cell? ⟨x, 5, none⟩ = some (.int .i64 m.x.left) ∧ u.cell? ⟨x, 3, none⟩ = some (.int .i64 m.x.size) := fun u g => by
    have hb := rdl_blk (stars_gr (frs_rdl _ _ _ _ _ _ _ _ _ _) h g)
    exact ⟨by rw [cells_at hb]; rfl, by rw [cells_at hb]; rfl, by rw [cells_at hb]; rfl, by rw [cells_at hb]; rfl, by rw [cells_at hb]; rfl⟩
  have CR : ∀ u, Gr w u → Calls Tryz.prog 46 #[.pointer (some ⟨D, 0, none⟩), .string m.x.nm, .int .i64 (m.x.pos : Int), .int .i64 (ak : Nat)] u fun e w' => e = .returned (.tuple #[.string t, .int .i64 er]) ∧ (∃ B', stars (rdl x D P m.s.call m.b (rdcells D P m.x (.slice qa 0 qc) va) (.slice qa 0 qc) va m.x.queue m.x.all) w' B' ∧ Nx B w B' w') ∧ (w'.cell? ⟨x, 0, none⟩ = some (.pointer (some ⟨D, 0, none⟩)) ∧ w'.cell? ⟨x, 2, none⟩ = some (.string m.x.nm) ∧ w'.cell? ⟨x, 4, none⟩ = some (.int .i64 m.x.pos) ∧ w'.cell? ⟨x, 5, none⟩ = some (.int .i64 m.x.left) ∧ w'.cell? ⟨x, 3, none⟩ = some (.int .i64 m.x.size)) := fun u g => by
    rw [ht, her, hak]
    refine (rr_read x D P m hok hc _ _ u B (stars_gr (frs_rdl _ _ _ _ _ _ _ _ _ _) h g)).mono ?_
    rintro e w' ⟨he, B', h', n'⟩
    have hb := rdl_blk h'
    exact ⟨he, ⟨B', h', (Nx.gr g).trans n'⟩, by rw [cells_at hb]; rfl, by rw [cells_at hb]; rfl, by rw [cells_at hb]; rfl, by rw [cells_at hb]; rfl, by rw [cells_at hb]; rfl⟩
  have CM : ∀ u, Gr w u → Calls Tryz.prog 56 #[.int .i64 m.x.size] u fun e w' => e = .returned (.int .i64 rm) ∧ Gr w w' := fun u g => by
    rw [hrm]
    exact (rroom_c m.x.size (by unfold I64; omega) u).mono fun e w' ⟨he, hw⟩ => ⟨he, by rw [← hw]; exact g⟩
  rw [← hrm, ← hak] at ai
  have hmax : max 17 rm = rm ∨ max 17 rm = 17 := by omega
  have KS := Lib.hid K0
  have CRH := Lib.hid CR
  have CMH := Lib.hid CM
  have gU := Gr.refl w
  have gUd : Gr w w.drew := Below.drew gU
  have HOK := Lib.hid hok
  have HQ := Lib.hid hq
  have HO := Lib.hid ho
  have he0 : er = 0 := by rw [her]; exact he
  have hts : t.size = ak := by rw [ht, hak]; exact bytesN_size he
  have CG := Lib.hid (fun u => rfget_c t m.x.size (by unfold I64; omega) u (by omega))
  have CE := Lib.hid (fun u => rgetend_c t u)
  rw [← ht] at hg he2 hl
  obtain ⟨gb, hgb⟩ : ∃ gb, gb = gB m.x.size t := ⟨_, rfl⟩
  obtain ⟨gn, hgn⟩ : ∃ gn, gn = gN m.x.size t := ⟨_, rfl⟩
  obtain ⟨gl, hgl⟩ : ∃ gl, gl = gL m.x.size t := ⟨_, rfl⟩
  obtain ⟨eb, heb⟩ : ∃ eb, eb = eB t := ⟨_, rfl⟩
  obtain ⟨ec, hec⟩ : ∃ ec, ec = eC t := ⟨_, rfl⟩
  obtain ⟨em, hem⟩ : ∃ em, em = eM t := ⟨_, rfl⟩
  unfold FGot at CG
  unfold EGot at CE
  rw [← hgb, ← hgn, ← hgl] at CG
  rw [← heb, ← hec, ← hem] at CE
  rw [← hgb] at hg
  rw [← heb] at he2
  subst hg he2
  have hl1 : ((t.size : Int) == (m.x.left : Int)) = false := by simpa using (show ¬ (t.size : Int) = (m.x.left : Int) by omega)
  subst he0
  clear h hb hz K0 CR CM ht hak hrm ho hq hok her he hgn hgl hgb heb hec hem hts
  go_enter Tryz.func21, Tryz.ntmps21
  go_wp2_with fail
  go_region_held3 (fun w' => w'.cell? ⟨x, 0, none⟩ = some (.pointer (some ⟨D, 0, none⟩)) ∧ w'.cell? ⟨x, 2, none⟩ = some (.string m.x.nm) ∧ w'.cell? ⟨x, 4, none⟩ = some (.int .i64 m.x.pos) ∧ w'.cell? ⟨x, 5, none⟩ = some (.int .i64 m.x.left) ∧ w'.cell? ⟨x, 3, none⟩ = some (.int .i64 m.x.size)) (first | exact KS.out _ gUd | exact KS.out _ (by assumption) | assumption | go_keep)
    ((first
      | (go_at_call 56; (with_reducible refine (CMH.out _ (by assumption)).mono ?_); rintro e t1 ⟨rfl, g1⟩)
      | (go_at_call 46; refine (CRH.out _ (by assumption)).mono ?_; rintro e t2 ⟨rfl, hst, hks⟩)))
  obtain ⟨B2, h2, n2⟩ := hst
  have H2 := Lib.hid h2
  have N2 := Lib.hid n2
  clear h2 n2 hks
  go_wp2_with fail
  refine (CG.out _).mono ?_; rintro e u3 ⟨v3, rfl, ho3, g3⟩
  have hl3 := ho3.lt
  obtain ⟨B3, h3, n3⟩ : ∃ B', stars (rdl x D P m.s.call m.b (rdcells D P m.x (.slice qa 0 qc) va) (.slice qa 0 qc) va m.x.queue m.x.all) u3 B' ∧ Nx B2 t2 B' u3 := ⟨B2, stars_gr (frs_rdl _ _ _ _ _ _ _ _ _ _) H2.out g3, Nx.gr g3⟩
  have HO3 := Lib.hid ho3
  have H3 := Lib.hid h3
  have NN3 := Lib.hid (N2.out.trans n3)
  clear h3 n3 ho3 hl3 g3
  go_wp2_with fail
  refine (CE.out _).mono ?_; rintro e u4 ⟨rfl, g4⟩
  have h4 := stars_gr (frs_rdl _ _ _ _ _ _ _ _ _ _) H3.out g4
  have H4 := Lib.hid h4
  have N4 := Lib.hid (NN3.out.trans (Nx.gr g4))
  have hb4 := rdl_blk h4
  have hxl4 := lt_of_block hb4
  have w12 : u4.cell? ⟨x, 12, none⟩ = some (.bool m.x.short) := by rw [cells_at hb4]; rfl
  have w5' : u4.cell? ⟨x, 5, none⟩ = some (.int .i64 m.x.left) := by rw [cells_at hb4]; rfl
  have w7 : u4.cell? ⟨x, 7, none⟩ = some va := by rw [cells_at hb4]; rfl
  obtain ⟨X, hX⟩ : ∃ X, X = u4.alloc (.cells #[.int .i64 ec, .int .u32 em] 51) := ⟨_, rfl⟩
  have gX : Gr u4 X := by rw [hX]; exact (Gr.refl u4).alloc (Nat.le_refl _) _
  have HX := Lib.hid hX
  have GX := Lib.hid gX
  have h5 := stars_gr (frs_rdl _ _ _ _ _ _ _ _ _ _) h4 gX
  have H5 := Lib.hid h5
  have N5 := Lib.hid (N4.out.trans (Nx.gr gX))
  have G4 := Lib.hid g4
  clear h4 h5 g4 hb4 hX gX
  go_wp2_with fail
  rw [← HX.out]
  have x5 : X.cell? ⟨x, 5, none⟩ = some (.int .i64 m.x.left) := (GX.out.cell (p := ⟨x, 5, none⟩) hxl4).trans w5'
  have x12 : X.cell? ⟨x, 12, none⟩ = some (.bool m.x.short) := (GX.out.cell (p := ⟨x, 12, none⟩) hxl4).trans w12
  go_quiet (fail)
  have CW := Lib.hid (fun k => rr_wrong x D P m.asked 6 (X.drewN k) _ ⟨_, _, stars_gr (frs_rdl _ _ _ _ _ _ _ _ _ _) H5.out (grN X k)⟩)
  have NW := Lib.hid (fun k => N5.out.trans (Nx.gr (grN X k)))
  go_wp2_with fail
  refine (CW.out _).mono ?_; rintro e w5 hd
  obtain ⟨rfl, B5, h5, n5⟩ := hd
  have H6 := Lib.hid h5
  have N6 := Lib.hid ((NW.out _).trans n5)
  clear h5 n5 CW
  go_wp2_with fail
  exact bodyPost_ret (v := ansV (noneA 6)) (by simp [results, Tryz.results21, go_sem, ansV, noneA]) rfl ⟨rfl, B5, H6.out, N6.out⟩
set_option maxHeartbeats 4000000 in
theorem rr_fill_late (x D P : Nat) (m : N3) (hok : m.ok) (ho : m.x.opn = true) (hq : m.x.queue = []) (hc : m.s.calls ≤ 1000000000000) (he : errN m = 0) (hg : gB m.x.size (bytesN m) = true) (hsh : m.x.short = true) (w : World) (B : Nat → Prop) (h : RR3 x D P m w B) :
    Calls Tryz.prog 21 #[.pointer (some ⟨x, 0, none⟩)] w (Does w B (RR3 x D P (wrongN m.asked)) (ansV (noneA 6))) := by
  obtain ⟨vq, va, h⟩ := h
  obtain ⟨_, hqa, _⟩ := part_at 1 rfl h
  obtain ⟨⟨qa, qc, rfl, _⟩, _⟩ := hqa
  have hql : m.x.queue.length = 0 := by rw [hq]; rfl
  rw [hql] at h
  have hb := rdl_blk h
  have hz := hok.z
  have hs2 : 1 ≤ m.x.size ∧ m.x.size ≤ 64 := by simpa [sizeB] using hz
  obtain ⟨ai, ai2⟩ := ask_int m.x hz
  obtain ⟨t, ht⟩ : ∃ t, t = bytesN m := ⟨_, rfl⟩
  obtain ⟨er, her⟩ : ∃ er, er = errN m := ⟨_, rfl⟩
  obtain ⟨ak, hak⟩ : ∃ ak : Nat, ak = askN m.x := ⟨_, rfl⟩
  obtain ⟨rm, hrm⟩ : ∃ rm, rm = roomN m.x.size := ⟨_, rfl⟩
  have c9 : w.cell? ⟨x, 9, none⟩ = some (.bool true) := by rw [cells_at hb, ← ho]; rfl
  have c6 : w.cell? ⟨x, 6, none⟩ = some (.slice qa 0 qc) := by rw [cells_at hb]; rfl
  have K0 : ∀ u, Gr w u → u.cell? ⟨x, 0, none⟩ = some (.pointer (some ⟨D, 0, none⟩)) ∧ u.cell? ⟨x, 2, none⟩ = some (.string m.x.nm) ∧ u.cell? ⟨x, 4, none⟩ = some (.int .i64 m.x.pos) ∧ u.cell? ⟨x, 5, none⟩ = some (.int .i64 m.x.left) ∧ u.cell? ⟨x, 3, none⟩ = some (.int .i64 m.x.size) := fun u g => by
    have hb := rdl_blk (stars_gr (frs_rdl _ _ _ _ _ _ _ _ _ _) h g)
    exact ⟨by rw [cells_at hb]; rfl, by rw [cells_at hb]; rfl, by rw [cells_at hb]; rfl, by rw [cells_at hb]; rfl, by rw [cells_at hb]; rfl⟩
  have CR : ∀ u, Gr w u → Calls Tryz.prog 46 #[.pointer (some ⟨D, 0, none⟩), .string m.x.nm, .int .i64 (m.x.pos : Int), .int .i64 (ak : Nat)] u fun e w' => e = .returned (.tuple #[.string t, .int .i64 er]) ∧ (∃ B', stars (rdl x D P m.s.call m.b (rdcells D P m.x (.slice qa 0 qc) va) (.slice qa 0 qc) va m.x.queue m.x.all) w' B' ∧ Nx B w B' w') ∧ (w'.cell? ⟨x, 0, none⟩ = some (.pointer (some ⟨D, 0, none⟩)) ∧ w'.cell? ⟨x, 2, none⟩ = some (.string m.x.nm) ∧ w'.cell? ⟨x, 4, none⟩ = some (.int .i64 m.x.pos) ∧ w'.cell? ⟨x, 5, none⟩ = some (.int .i64 m.x.left) ∧ w'.cell? ⟨x, 3, none⟩ = some (.int .i64 m.x.size)) := fun u g => by
    rw [ht, her, hak]
    refine (rr_read x D P m hok hc _ _ u B (stars_gr (frs_rdl _ _ _ _ _ _ _ _ _ _) h g)).mono ?_
    rintro e w' ⟨he, B', h', n'⟩
    have hb := rdl_blk h'
    exact ⟨he, ⟨B', h', (Nx.gr g).trans n'⟩, by rw [cells_at hb]; rfl, by rw [cells_at hb]; rfl, by rw [cells_at hb]; rfl, by rw [cells_at hb]; rfl, by rw [cells_at hb]; rfl⟩
  have CM : ∀ u, Gr w u → Calls Tryz.prog 56 #[.int .i64 m.x.size] u fun e w' => e = .returned (.int .i64 rm) ∧ Gr w w' := fun u g => by
    rw [hrm]
    exact (rroom_c m.x.size (by unfold I64; omega) u).mono fun e w' ⟨he, hw⟩ => ⟨he, by rw [← hw]; exact g⟩
  rw [← hrm, ← hak] at ai
  have hmax : max 17 rm = rm ∨ max 17 rm = 17 := by omega
  have KS := Lib.hid K0
  have CRH := Lib.hid CR
  have CMH := Lib.hid CM
  have gU := Gr.refl w
  have gUd : Gr w w.drew := Below.drew gU
  have HOK := Lib.hid hok
  have HQ := Lib.hid hq
  have HO := Lib.hid ho
  have he0 : er = 0 := by rw [her]; exact he
  have hts : t.size = ak := by rw [ht, hak]; exact bytesN_size he
  have CG := Lib.hid (fun u => rfget_c t m.x.size (by unfold I64; omega) u (by omega))
  have CE := Lib.hid (fun u => rgetend_c t u)
  rw [← ht] at hg
  obtain ⟨gb, hgb⟩ : ∃ gb, gb = gB m.x.size t := ⟨_, rfl⟩
  obtain ⟨gn, hgn⟩ : ∃ gn, gn = gN m.x.size t := ⟨_, rfl⟩
  obtain ⟨gl, hgl⟩ : ∃ gl, gl = gL m.x.size t := ⟨_, rfl⟩
  obtain ⟨eb, heb⟩ : ∃ eb, eb = eB t := ⟨_, rfl⟩
  obtain ⟨ec, hec⟩ : ∃ ec, ec = eC t := ⟨_, rfl⟩
  obtain ⟨em, hem⟩ : ∃ em, em = eM t := ⟨_, rfl⟩
  unfold FGot at CG
  unfold EGot at CE
  rw [← hgb, ← hgn, ← hgl] at CG
  rw [← heb, ← hec, ← hem] at CE
  rw [← hgb] at hg
  subst hg
  subst he0
  clear h hb hz K0 CR CM ht hak hrm ho hq hok her he hgn hgl hgb heb hec hem hts
  go_enter Tryz.func21, Tryz.ntmps21
  go_wp2_with fail
  go_region_held3 (fun w' => w'.cell? ⟨x, 0, none⟩ = some (.pointer (some ⟨D, 0, none⟩)) ∧ w'.cell? ⟨x, 2, none⟩ = some (.string m.x.nm) ∧ w'.cell? ⟨x, 4, none⟩ = some (.int .i64 m.x.pos) ∧ w'.cell? ⟨x, 5, none⟩ = some (.int .i64 m.x.left) ∧ w'.cell? ⟨x, 3, none⟩ = some (.int .i64 m.x.size)) (first | exact KS.out _ gUd | exact KS.out _ (by assumption) | assumption | go_keep)
    ((first
      | (go_at_call 56; (with_reducible refine (CMH.out _ (by assumption)).mono ?_); rintro e t1 ⟨rfl, g1⟩)
      | (go_at_call 46; refine (CRH.out _ (by assumption)).mono ?_; rintro e t2 ⟨rfl, hst, hks⟩)))
  obtain ⟨B2, h2, n2⟩ := hst
  have H2 := Lib.hid h2
  have N2 := Lib.hid n2
  clear h2 n2 hks
  go_wp2_with fail
  refine (CG.out _).mono ?_; rintro e u3 ⟨v3, rfl, ho3, g3⟩
  have hl3 := ho3.lt
  obtain ⟨B3, h3, n3⟩ : ∃ B', stars (rdl x D P m.s.call m.b (rdcells D P m.x (.slice qa 0 qc) va) (.slice qa 0 qc) va m.x.queue m.x.all) u3 B' ∧ Nx B2 t2 B' u3 := ⟨B2, stars_gr (frs_rdl _ _ _ _ _ _ _ _ _ _) H2.out g3, Nx.gr g3⟩
  have HO3 := Lib.hid ho3
  have H3 := Lib.hid h3
  have NN3 := Lib.hid (N2.out.trans n3)
  clear h3 n3 ho3 hl3 g3
  go_wp2_with fail
  refine (CE.out _).mono ?_; rintro e u4 ⟨rfl, g4⟩
  have h4 := stars_gr (frs_rdl _ _ _ _ _ _ _ _ _ _) H3.out g4
  have H4 := Lib.hid h4
  have N4 := Lib.hid (NN3.out.trans (Nx.gr g4))
  have hb4 := rdl_blk h4
  have hxl4 := lt_of_block hb4
  have w12 : u4.cell? ⟨x, 12, none⟩ = some (.bool m.x.short) := by rw [cells_at hb4]; rfl
  have w5' : u4.cell? ⟨x, 5, none⟩ = some (.int .i64 m.x.left) := by rw [cells_at hb4]; rfl
  have w7 : u4.cell? ⟨x, 7, none⟩ = some va := by rw [cells_at hb4]; rfl
  obtain ⟨X, hX⟩ : ∃ X, X = u4.alloc (.cells #[.int .i64 ec, .int .u32 em] 51) := ⟨_, rfl⟩
  have gX : Gr u4 X := by rw [hX]; exact (Gr.refl u4).alloc (Nat.le_refl _) _
  have HX := Lib.hid hX
  have GX := Lib.hid gX
  have h5 := stars_gr (frs_rdl _ _ _ _ _ _ _ _ _ _) h4 gX
  have H5 := Lib.hid h5
  have N5 := Lib.hid (N4.out.trans (Nx.gr gX))
  have G4 := Lib.hid g4
  clear h4 h5 g4 hb4 hX gX
  go_wp2_with fail
  rw [← HX.out]
  have x5 : X.cell? ⟨x, 5, none⟩ = some (.int .i64 m.x.left) := (GX.out.cell (p := ⟨x, 5, none⟩) hxl4).trans w5'
  have x12 : X.cell? ⟨x, 12, none⟩ = some (.bool m.x.short) := (GX.out.cell (p := ⟨x, 12, none⟩) hxl4).trans w12
  rw [hsh] at x12
  go_quiet (fail)
  have CW := Lib.hid (fun k => rr_wrong x D P m.asked 6 (X.drewN k) _ ⟨_, _, stars_gr (frs_rdl _ _ _ _ _ _ _ _ _ _) H5.out (grN X k)⟩)
  have NW := Lib.hid (fun k => N5.out.trans (Nx.gr (grN X k)))
  go_wp2_with fail
  refine (CW.out _).mono ?_; rintro e w5 hd
  obtain ⟨rfl, B5, h5, n5⟩ := hd
  have H6 := Lib.hid h5
  have N6 := Lib.hid ((NW.out _).trans n5)
  clear h5 n5 CW
  go_wp2_with fail
  exact bodyPost_ret (v := ansV (noneA 6)) (by simp [results, Tryz.results21, go_sem, ansV, noneA]) rfl ⟨rfl, B5, H6.out, N6.out⟩
end Go.Proofs.YtojlceoeacebmaaGreat
