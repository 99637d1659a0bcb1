/- In one text: Rd6. -/
import Derived.Test.YtignfbdgpgidpaaGreatDoorW31
import Derived.Test.YtignfbdgpgidpaaGreatDoorW09
/- The program's reader: load. -/
namespace Go.Proofs.YtignfbdgpgidpaaGreatDoor
open Go.RowKit FsPlain CrcPlain OctPlain FramePlain RecPlain RdPlain
set_option linter.unusedVariables false
set_option linter.unusedSimpArgs false
set_option maxRecDepth 20000
theorem r_end (x D P : Nat) (m : N3) (S : ByteArray) (t : Bool) (e : Int) (hl : S.size ≤ m.x.left) (hY : (eB S = true ∧ S.size = m.x.left ∧ eC S = (m.x.told : Nat) ∧ eM S = (sumN m.x.all : Nat)) → t = true ∧ e = 0) (hN : ¬ (eB S = true ∧ S.size = m.x.left ∧ eC S = (m.x.told : Nat) ∧ eM S = (sumN m.x.all : Nat)) → t = false ∧ e = 6) (w : World) (B : Nat → Prop) (h : RO x D P m false w B) :
    Calls Tryz.prog 167 #[.pointer (some ⟨x, 0, none⟩), .string S] w (Does w B (RO x D P m t) (.int .i64 e)) := by
  cases h1 : eB S
  · obtain ⟨rfl, rfl⟩ := hN (by rw [h1]; simp)
    exact r_end_none x D P m S h1 w B h
  · by_cases h2 : S.size = m.x.left
    · by_cases h3 : eC S = (m.x.told : Nat) ∧ eM S = (sumN m.x.all : Nat)
      · obtain ⟨rfl, rfl⟩ := hY ⟨h1, h2, h3⟩
        exact r_end_whole x D P m S h1 h2 h3.1 h3.2 w B h
      · obtain ⟨rfl, rfl⟩ := hN (fun k => h3 k.2.2)
        exact r_end_odd x D P m S h1 h2 h3 w B h
    · obtain ⟨rfl, rfl⟩ := hN (fun k => h2 k.2.1)
      exact r_end_part x D P m S h1 (by omega) w B h
def RdPlain.loadN (m : N3) : N3 × Bool × Int :=
  if ¬ errN m = 0 then (m.asked, false, errN m)
  else if isEnd m.x (bytesN m) then (m.asked, true, 0)
  else if gB m.x.size (bytesN m) = false ∨ m.x.short = true then (m.asked, false, 6)
  else (m.asked.filled (bytesN m), false, 0)
theorem ask_room (x : Rs) (hz : sizeB x.size = true) : ∃ rn n : Nat, roomN x.size = (rn : Int) ∧ max (rn : Int) 17 = (n : Nat) ∧ min n x.left = askN x ∧ n ≤ 261 := by
  have hs : 1 ≤ x.size ∧ x.size ≤ 64 := by simpa [sizeB] using hz
  have hr : roomN x.size = 5 + 4 * x.size := by unfold roomN; rw [if_pos hz]
  refine ⟨(roomN x.size).toNat, max 17 (roomN x.size).toNat, ?_, ?_, ?_, ?_⟩
  · rw [hr]; omega
  · rw [hr]; omega
  · unfold askN; omega
  · rw [hr]; omega
theorem r_look (x D P : Nat) (m : N3) (n : Nat) (vq : Value) (hok : m.ok) (hc : m.s.calls ≤ 1000000000000) (hn : min n m.x.left = askN m.x) (hn2 : n ≤ 261) (w : World) (B : Nat → Prop) (h : stars (rol x D P m.s m.b (rdc D P m.x vq (sumN m.x.all) false) vq m.x.queue) w B) :
    Calls Tryz.prog 162 #[.pointer (some ⟨x, 0, none⟩), .int .i64 (n : Nat)] w (Does w B (stars (rol x D P m.s.call m.b (rdc D P m.x vq (sumN m.x.all) false) vq m.x.queue)) (.tuple #[.string (bytesN m), .int .i64 (errN m)])) := by
  have hf := hok.fit
  unfold bytesN errN
  rw [← hn]
  exact does_pre [Blk x (rdc D P m.x vq (sumN m.x.all) false) 175, DiskA D m.s] (L' := [Blk x (rdc D P m.x vq (sumN m.x.all) false) 175, DiskA D m.s.call]) (M := [QueA vq m.x.queue, BuA P m.b]) ⟨fr_que _ _, fr_bu _ _, trivial⟩ h fun B1 h1 => src_look x D _ _ m.s m.x.nm m.x.pos m.x.left n (src_rdc _ _ _ _ _ _) hok.n1 hok.n2 hc hf (by omega) w B1 h1
set_option maxHeartbeats 4000000 in
theorem r_load_err (x D P : Nat) (m : N3) (hok : m.ok) (hq : m.x.queue = []) (hc : m.s.calls ≤ 1000000000000) (he : ¬ errN m = 0) (w : World) (B : Nat → Prop) (h : RO x D P m false w B) :
    Calls Tryz.prog 135 #[.pointer (some ⟨x, 0, none⟩)] w (Does w B (RO x D P m.asked false) (.int .i64 (errN m))) := by
  obtain ⟨vq, h⟩ := h
  have hb := rol_blk h
  have hz := hok.z
  have hs2 : 1 ≤ m.x.size ∧ m.x.size ≤ 64 := by simpa [sizeB] using hz
  obtain ⟨rn, n, hrn, ax, hn, hn2⟩ := ask_room m.x hz
  obtain ⟨t, ht⟩ : ∃ t, t = bytesN m := ⟨_, rfl⟩
  obtain ⟨er, her⟩ : ∃ er, er = errN m := ⟨_, rfl⟩
  have K0 : ∀ u, Gr w u → u.cell? ⟨x, 5, none⟩ = some (.int .i64 m.x.size) := fun u g => by
    have hb := rol_blk (stars_gr (frs_rol _ _ _ _ _ _ _ _) h g)
    rw [cells_at hb]; rfl
  have CL : ∀ u, Gr w u → Calls Tryz.prog 162 #[.pointer (some ⟨x, 0, none⟩), .int .i64 (n : Nat)] u fun e w' => e = .returned (.tuple #[.string t, .int .i64 er]) ∧ (∃ B', stars (rol x D P m.s.call m.b (rdc D P m.x vq (sumN m.x.all) false) vq m.x.queue) w' B' ∧ Nx B w B' w') ∧ w'.cell? ⟨x, 5, none⟩ = some (.int .i64 m.x.size) := fun u g => by
    rw [ht, her]
    refine (r_look x D P m n vq hok hc hn hn2 u B (stars_gr (frs_rol _ _ _ _ _ _ _ _) h g)).mono ?_
    rintro e w' ⟨he, B', h', n'⟩
    exact ⟨he, ⟨B', h', (Nx.gr g).trans n'⟩, by rw [cells_at (rol_blk h')]; rfl⟩
  have CM : ∀ u, Gr w u → Calls Tryz.prog 129 #[.int .i64 m.x.size] u fun e w' => e = .returned (.int .i64 (rn : Nat)) ∧ Gr w w' := fun u g => by
    rw [← hrn]
    exact (room_c m.x.size (by unfold I64; omega) u).mono fun e w' ⟨he, hw⟩ => ⟨he, by rw [← hw]; exact g⟩
  have hmax : max (rn : Int) 17 = rn ∨ max (rn : Int) 17 = 17 := by omega
  have KS := Lib.hid K0
  have CLH := Lib.hid CL
  have CMH := Lib.hid CM
  have gU := Gr.refl w
  have gUd : Gr w w.drew := Below.drew gU
  have he0 : ¬ er = 0 := by rw [her]; exact he
  have t1 : (er == 0) = false := by simpa using he0
  have t2' : (er != 0) = true := by simpa using he0
  rw [← her]
  clear h hb hz K0 CL CM hrn hn ht her hok hq he he0
  go_enter Tryz.func135, Tryz.ntmps135
  go_wp2_with fail
  go_region_held3 (fun w' => w'.cell? ⟨x, 5, none⟩ = some (.int .i64 m.x.size)) (first | exact KS.out _ gUd | exact KS.out _ (by assumption) | assumption | go_keep)
    ((first
      | (go_at_call 129; (with_reducible refine (CMH.out _ (by assumption)).mono ?_); rintro e t1 ⟨rfl, g1⟩)
      | (go_at_call 162; refine (CLH.out _ (by assumption)).mono ?_; rintro e t2 ⟨rfl, hst, hks⟩)))
  obtain ⟨B2, h2, n2⟩ := hst
  have H2 := Lib.hid h2
  have N2 := Lib.hid n2
  clear h2 n2
  go_wp2_with fail
  go_ret
  exact ⟨rfl, B2, ⟨_, H2.out⟩, N2.out⟩
set_option maxHeartbeats 4000000 in
theorem r_load_late (x D P : Nat) (m : N3) (hok : m.ok) (hq : m.x.queue = []) (hc : m.s.calls ≤ 1000000000000) (he : errN m = 0) (hg : gB m.x.size (bytesN m) = true) (hs : m.x.short = true) (w : World) (B : Nat → Prop) (h : RO x D P m false w B) :
    Calls Tryz.prog 135 #[.pointer (some ⟨x, 0, none⟩)] w (Does w B (RO x D P m.asked false) (.int .i64 6)) := by
  obtain ⟨vq, h⟩ := h
  have hb := rol_blk h
  have hz := hok.z
  have hs2 : 1 ≤ m.x.size ∧ m.x.size ≤ 64 := by simpa [sizeB] using hz
  obtain ⟨rn, n, hrn, ax, hn, hn2⟩ := ask_room m.x hz
  obtain ⟨t, ht⟩ : ∃ t, t = bytesN m := ⟨_, rfl⟩
  obtain ⟨er, her⟩ : ∃ er, er = errN m := ⟨_, rfl⟩
  have K0 : ∀ u, Gr w u → u.cell? ⟨x, 5, none⟩ = some (.int .i64 m.x.size) := fun u g => by
    have hb := rol_blk (stars_gr (frs_rol _ _ _ _ _ _ _ _) h g)
    rw [cells_at hb]; rfl
  have CL : ∀ u, Gr w u → Calls Tryz.prog 162 #[.pointer (some ⟨x, 0, none⟩), .int .i64 (n : Nat)] u fun e w' => e = .returned (.tuple #[.string t, .int .i64 er]) ∧ (∃ B', stars (rol x D P m.s.call m.b (rdc D P m.x vq (sumN m.x.all) false) vq m.x.queue) w' B' ∧ Nx B w B' w') ∧ w'.cell? ⟨x, 5, none⟩ = some (.int .i64 m.x.size) := fun u g => by
    rw [ht, her]
    refine (r_look x D P m n vq hok hc hn hn2 u B (stars_gr (frs_rol _ _ _ _ _ _ _ _) h g)).mono ?_
    rintro e w' ⟨he, B', h', n'⟩
    exact ⟨he, ⟨B', h', (Nx.gr g).trans n'⟩, by rw [cells_at (rol_blk h')]; rfl⟩
  have CM : ∀ u, Gr w u → Calls Tryz.prog 129 #[.int .i64 m.x.size] u fun e w' => e = .returned (.int .i64 (rn : Nat)) ∧ Gr w w' := fun u g => by
    rw [← hrn]
    exact (room_c m.x.size (by unfold I64; omega) u).mono fun e w' ⟨he, hw⟩ => ⟨he, by rw [← hw]; exact g⟩
  have hmax : max (rn : Int) 17 = rn ∨ max (rn : Int) 17 = 17 := by omega
  have KS := Lib.hid K0
  have CLH := Lib.hid CL
  have CMH := Lib.hid CM
  have gU := Gr.refl w
  have gUd : Gr w w.drew := Below.drew gU
  have he0 : er = 0 := by rw [her]; exact he
  have hts : t.size = askN m.x := by rw [ht]; exact bytesN_size he
  have hle := ask_left m.x
  have CG := Lib.hid (fun u => fget_c t m.x.size (by unfold I64; omega) u (by have := hn; omega))
  unfold FGot at CG
  rw [← ht] at hg
  subst he0
  obtain ⟨gb, hgb⟩ : ∃ gb, gb = gB m.x.size t := ⟨_, rfl⟩
  obtain ⟨gn, hgn⟩ : ∃ gn, gn = gN m.x.size t := ⟨_, rfl⟩
  obtain ⟨gl, hgl⟩ : ∃ gl, gl = gL m.x.size t := ⟨_, rfl⟩
  rw [← hgb, ← hgn, ← hgl] at CG
  rw [← hgb] at hg
  subst hg
  have CB := Lib.hid (fun v w1 B1 (h1 : RO x D P m.asked false w1 B1) => r_block_late x D P m.asked v gn hs w1 B1 h1)
  clear h hb hz K0 CL CM hrn hn ht her hok hq he hts hgb hgn hgl hs
  go_enter Tryz.func135, Tryz.ntmps135
  go_wp2_with fail
  go_region_held3 (fun w' => w'.cell? ⟨x, 5, none⟩ = some (.int .i64 m.x.size)) (first | exact KS.out _ gUd | exact KS.out _ (by assumption) | assumption | go_keep)
    ((first
      | (go_at_call 129; (with_reducible refine (CMH.out _ (by assumption)).mono ?_); rintro e t1 ⟨rfl, g1⟩)
      | (go_at_call 162; refine (CLH.out _ (by assumption)).mono ?_; rintro e t2 ⟨rfl, hst, hks⟩)))
  obtain ⟨B2, h2, n2⟩ := hst
  have H2 := Lib.hid h2
  have N2 := Lib.hid n2
  clear h2 n2
  go_wp2_with fail
  refine (CG.out _).mono ?_; rintro e u3 ⟨v3, rfl, ho3, g3⟩
  have CB1 := Lib.hid (CB.out v3 u3 B2 (star_gr (fr_ro _ _ _ _ _) ⟨_, H2.out⟩ g3))
  have N3 := Lib.hid (N2.out.trans (Nx.gr g3))
  clear ho3 g3
  go_wp2_with fail
  refine CB1.out.mono ?_; rintro e w5 hd
  obtain ⟨rfl, B5, h5, n5⟩ := hd
  have H5 := Lib.hid h5
  have N5 := Lib.hid (N3.out.trans n5)
  clear h5 n5 CB1
  go_wp2_with fail
  go_ret
  exact ⟨rfl, B5, H5.out, N5.out⟩
set_option maxHeartbeats 4000000 in
theorem r_load_block (x D P : Nat) (m : N3) (hok : m.ok) (hq : m.x.queue = []) (hc : m.s.calls ≤ 1000000000000) (he : errN m = 0) (hg : gB m.x.size (bytesN m) = true) (hs : m.x.short = false) (w : World) (B : Nat → Prop) (h : RO x D P m false w B) :
    Calls Tryz.prog 135 #[.pointer (some ⟨x, 0, none⟩)] w (Does w B (RO x D P (m.asked.filled (bytesN m)) false) (.int .i64 0)) := by
  obtain ⟨vq, h⟩ := h
  have hb := rol_blk h
  have hz := hok.z
  have hs2 : 1 ≤ m.x.size ∧ m.x.size ≤ 64 := by simpa [sizeB] using hz
  obtain ⟨rn, n, hrn, ax, hn, hn2⟩ := ask_room m.x hz
  obtain ⟨t, ht⟩ : ∃ t, t = bytesN m := ⟨_, rfl⟩
  obtain ⟨er, her⟩ : ∃ er, er = errN m := ⟨_, rfl⟩
  have K0 : ∀ u, Gr w u → u.cell? ⟨x, 5, none⟩ = some (.int .i64 m.x.size) := fun u g => by
    have hb := rol_blk (stars_gr (frs_rol _ _ _ _ _ _ _ _) h g)
    rw [cells_at hb]; rfl
  have CL : ∀ u, Gr w u → Calls Tryz.prog 162 #[.pointer (some ⟨x, 0, none⟩), .int .i64 (n : Nat)] u fun e w' => e = .returned (.tuple #[.string t, .int .i64 er]) ∧ (∃ B', stars (rol x D P m.s.call m.b (rdc D P m.x vq (sumN m.x.all) false) vq m.x.queue) w' B' ∧ Nx B w B' w') ∧ w'.cell? ⟨x, 5, none⟩ = some (.int .i64 m.x.size) := fun u g => by
    rw [ht, her]
    refine (r_look x D P m n vq hok hc hn hn2 u B (stars_gr (frs_rol _ _ _ _ _ _ _ _) h g)).mono ?_
    rintro e w' ⟨he, B', h', n'⟩
    exact ⟨he, ⟨B', h', (Nx.gr g).trans n'⟩, by rw [cells_at (rol_blk h')]; rfl⟩
  have CM : ∀ u, Gr w u → Calls Tryz.prog 129 #[.int .i64 m.x.size] u fun e w' => e = .returned (.int .i64 (rn : Nat)) ∧ Gr w w' := fun u g => by
    rw [← hrn]
    exact (room_c m.x.size (by unfold I64; omega) u).mono fun e w' ⟨he, hw⟩ => ⟨he, by rw [← hw]; exact g⟩
  have hmax : max (rn : Int) 17 = rn ∨ max (rn : Int) 17 = 17 := by omega
  have KS := Lib.hid K0
  have CLH := Lib.hid CL
  have CMH := Lib.hid CM
  have gU := Gr.refl w
  have gUd : Gr w w.drew := Below.drew gU
  have he0 : er = 0 := by rw [her]; exact he
  have hts : t.size = askN m.x := by rw [ht]; exact bytesN_size he
  have hle := ask_left m.x
  have CG := Lib.hid (fun u => fget_c t m.x.size (by unfold I64; omega) u (by have := hn; omega))
  unfold FGot at CG
  rw [← ht] at hg
  subst he0
  obtain ⟨z1, z2, z3⟩ := gL_size hg
  obtain ⟨_, gn, hgn, hgn2, _⟩ := get_is hg
  have hM : m.asked.filled (bytesN m) = ⟨m.s.call, m.b, { m.x with short := decide ((gL m.x.size t).length < 4), queue := gL m.x.size t, all := m.x.all ++ gL m.x.size t, pos := m.x.pos + gn, left := m.x.left - gn }⟩ := by
    unfold N3.filled; rw [← ht, show gN m.asked.x.size t = (gn : Nat) from hgn]; rfl
  have hfit := hok.fit
  rw [hgn] at CG
  obtain ⟨gb, hgb⟩ : ∃ gb, gb = gB m.x.size t := ⟨_, rfl⟩
  obtain ⟨gl, hgl⟩ : ∃ gl, gl = gL m.x.size t := ⟨_, rfl⟩
  rw [← hgb, ← hgl] at CG
  rw [← hgl] at hM z2 z3
  rw [← hgb] at hg
  subst hg
  obtain ⟨M, hMM⟩ : ∃ M, M = m.asked.filled (bytesN m) := ⟨_, rfl⟩
  rw [← hMM] at hM ⊢
  have CB := Lib.hid (fun v w1 B1 (h1 : stars (rol x D P m.s.call m.b (rdc D P m.x vq (sumN m.x.all) false) v gl) w1 B1) => r_block x D P m.asked v vq gl gn M hM hs z2 (fun r hr => by have := z3 r hr; omega) (show gn ≤ m.x.left by omega) hfit w1 B1 h1)
  clear h hb hz K0 CL CM hrn hn ht her hok hq he hts hgb hgn hgn2 hgl hs z1 z2 z3 hM hMM hfit
  go_enter Tryz.func135, Tryz.ntmps135
  go_wp2_with fail
  go_region_held3 (fun w' => w'.cell? ⟨x, 5, none⟩ = some (.int .i64 m.x.size)) (first | exact KS.out _ gUd | exact KS.out _ (by assumption) | assumption | go_keep)
    ((first
      | (go_at_call 129; (with_reducible refine (CMH.out _ (by assumption)).mono ?_); rintro e t1 ⟨rfl, g1⟩)
      | (go_at_call 162; refine (CLH.out _ (by assumption)).mono ?_; rintro e t2 ⟨rfl, hst, hks⟩)))
  obtain ⟨B2, h2, n2⟩ := hst
  have H2 := Lib.hid h2
  have N2 := Lib.hid n2
  clear h2 n2
  go_wp2_with fail
  refine (CG.out _).mono ?_; rintro e u3 ⟨v3, rfl, ho3, g3⟩
  obtain ⟨q1, q2⟩ := que_new ho3
  obtain ⟨B3, h3, n3⟩ := part_new (frs_rol _ _ _ _ _ _ _ _) H2.out g3 q1 q2
  obtain ⟨B4, h4, n4⟩ := rol_queue h3
  have CB1 := Lib.hid (CB.out v3 u3 B4 h4)
  have N4 := Lib.hid ((N2.out.trans n3).trans n4)
  clear ho3 g3 q1 q2 h3 n3 h4 n4
  go_wp2_with fail
  refine CB1.out.mono ?_; rintro e w5 hd
  obtain ⟨rfl, B5, h5, n5⟩ := hd
  have H5 := Lib.hid h5
  have N5 := Lib.hid (N4.out.trans n5)
  clear h5 n5 CB1
  go_wp2_with fail
  go_ret
  exact ⟨rfl, B5, H5.out, N5.out⟩
set_option maxHeartbeats 4000000 in
theorem r_load_end (x D P : Nat) (m : N3) (hok : m.ok) (hq : m.x.queue = []) (hc : m.s.calls ≤ 1000000000000) (he : errN m = 0) (hg : gB m.x.size (bytesN m) = false) (tt : Bool) (ee : Int) (hY : isEnd m.x (bytesN m) → tt = true ∧ ee = 0) (hN : ¬ isEnd m.x (bytesN m) → tt = false ∧ ee = 6) (w : World) (B : Nat → Prop) (h : RO x D P m false w B) :
    Calls Tryz.prog 135 #[.pointer (some ⟨x, 0, none⟩)] w (Does w B (RO x D P m.asked tt) (.int .i64 ee)) := by
  obtain ⟨vq, h⟩ := h
  have hb := rol_blk h
  have hz := hok.z
  have hs2 : 1 ≤ m.x.size ∧ m.x.size ≤ 64 := by simpa [sizeB] using hz
  obtain ⟨rn, n, hrn, ax, hn, hn2⟩ := ask_room m.x hz
  obtain ⟨t, ht⟩ : ∃ t, t = bytesN m := ⟨_, rfl⟩
  obtain ⟨er, her⟩ : ∃ er, er = errN m := ⟨_, rfl⟩
  have K0 : ∀ u, Gr w u → u.cell? ⟨x, 5, none⟩ = some (.int .i64 m.x.size) := fun u g => by
    have hb := rol_blk (stars_gr (frs_rol _ _ _ _ _ _ _ _) h g)
    rw [cells_at hb]; rfl
  have CL : ∀ u, Gr w u → Calls Tryz.prog 162 #[.pointer (some ⟨x, 0, none⟩), .int .i64 (n : Nat)] u fun e w' => e = .returned (.tuple #[.string t, .int .i64 er]) ∧ (∃ B', stars (rol x D P m.s.call m.b (rdc D P m.x vq (sumN m.x.all) false) vq m.x.queue) w' B' ∧ Nx B w B' w') ∧ w'.cell? ⟨x, 5, none⟩ = some (.int .i64 m.x.size) := fun u g => by
    rw [ht, her]
    refine (r_look x D P m n vq hok hc hn hn2 u B (stars_gr (frs_rol _ _ _ _ _ _ _ _) h g)).mono ?_
    rintro e w' ⟨he, B', h', n'⟩
    exact ⟨he, ⟨B', h', (Nx.gr g).trans n'⟩, by rw [cells_at (rol_blk h')]; rfl⟩
  have CM : ∀ u, Gr w u → Calls Tryz.prog 129 #[.int .i64 m.x.size] u fun e w' => e = .returned (.int .i64 (rn : Nat)) ∧ Gr w w' := fun u g => by
    rw [← hrn]
    exact (room_c m.x.size (by unfold I64; omega) u).mono fun e w' ⟨he, hw⟩ => ⟨he, by rw [← hw]; exact g⟩
  have hmax : max (rn : Int) 17 = rn ∨ max (rn : Int) 17 = 17 := by omega
  have KS := Lib.hid K0
  have CLH := Lib.hid CL
  have CMH := Lib.hid CM
  have gU := Gr.refl w
  have gUd : Gr w w.drew := Below.drew gU
  have hg0 := hg
  have he0 : er = 0 := by rw [her]; exact he
  have hts : t.size = askN m.x := by rw [ht]; exact bytesN_size he
  have hle := ask_left m.x
  have CG := Lib.hid (fun u => fget_c t m.x.size (by unfold I64; omega) u (by have := hn; omega))
  unfold FGot at CG
  rw [← ht] at hg
  subst he0
  have hcnt := hok.cnt
  rw [hq] at hcnt
  have hcnt : m.x.all.length = m.x.told := by simpa using hcnt
  have hIs : isEnd m.x (bytesN m) ↔ (eB t = true ∧ t.size = m.x.left ∧ eC t = (m.x.told : Nat) ∧ eM t = (sumN m.x.all : Nat)) := by
    unfold isEnd; rw [← hcnt, ht]; exact ⟨fun k => k.2, fun k => ⟨hg0, k⟩⟩
  have CE := Lib.hid (fun w1 B1 (h1 : RO x D P m.asked false w1 B1) => r_end x D P m.asked t tt ee (show t.size ≤ m.x.left by omega) (fun k => hY (hIs.2 k)) (fun k => hN (fun j => k (hIs.1 j))) w1 B1 h1)
  obtain ⟨gb, hgb⟩ : ∃ gb, gb = gB m.x.size t := ⟨_, rfl⟩
  obtain ⟨gn, hgn⟩ : ∃ gn, gn = gN m.x.size t := ⟨_, rfl⟩
  obtain ⟨gl, hgl⟩ : ∃ gl, gl = gL m.x.size t := ⟨_, rfl⟩
  rw [← hgb, ← hgn, ← hgl] at CG
  rw [← hgb] at hg
  subst hg
  clear h hb hz K0 CL CM hrn hn ht her hok hq he hts hgb hgn hgl hg0 hcnt hIs hY hN
  go_enter Tryz.func135, Tryz.ntmps135
  go_wp2_with fail
  go_region_held3 (fun w' => w'.cell? ⟨x, 5, none⟩ = some (.int .i64 m.x.size)) (first | exact KS.out _ gUd | exact KS.out _ (by assumption) | assumption | go_keep)
    ((first
      | (go_at_call 129; (with_reducible refine (CMH.out _ (by assumption)).mono ?_); rintro e t1 ⟨rfl, g1⟩)
      | (go_at_call 162; refine (CLH.out _ (by assumption)).mono ?_; rintro e t2 ⟨rfl, hst, hks⟩)))
  obtain ⟨B2, h2, n2⟩ := hst
  have H2 := Lib.hid h2
  have N2 := Lib.hid n2
  clear h2 n2
  go_wp2_with fail
  refine (CG.out _).mono ?_; rintro e u3 ⟨v3, rfl, ho3, g3⟩
  have CE1 := Lib.hid (CE.out u3 B2 (star_gr (fr_ro _ _ _ _ _) ⟨_, H2.out⟩ g3))
  have N3 := Lib.hid (N2.out.trans (Nx.gr g3))
  clear ho3 g3
  go_wp2_with fail
  refine CE1.out.mono ?_; rintro e w5 hd
  obtain ⟨rfl, B5, h5, n5⟩ := hd
  have H5 := Lib.hid h5
  have N5 := Lib.hid (N3.out.trans n5)
  clear h5 n5 CE1
  go_wp2_with fail
  go_ret
  exact ⟨rfl, B5, H5.out, N5.out⟩
theorem r_load (x D P : Nat) (m : N3) (hok : m.ok) (hq : m.x.queue = []) (hc : m.s.calls ≤ 1000000000000) (w : World) (B : Nat → Prop) (h : RO x D P m false w B) :
    Calls Tryz.prog 135 #[.pointer (some ⟨x, 0, none⟩)] w (Does w B (RO x D P (loadN m).1 (loadN m).2.1) (.int .i64 (loadN m).2.2)) := by
  unfold loadN
  by_cases he : errN m = 0
  · rw [if_neg (by simpa using he)]
    cases hg : gB m.x.size (bytesN m)
    · by_cases hE : isEnd m.x (bytesN m)
      · rw [if_pos hE]
        exact r_load_end x D P m hok hq hc he hg true 0 (fun _ => ⟨rfl, rfl⟩) (fun k => absurd hE k) w B h
      · rw [if_neg hE, if_pos (.inl rfl)]
        exact r_load_end x D P m hok hq hc he hg false 6 (fun k => absurd k hE) (fun _ => ⟨rfl, rfl⟩) w B h
    · have hE : ¬ isEnd m.x (bytesN m) := fun hE => by have := hE.1; rw [hg] at this; cases this
      rw [if_neg hE]
      cases hs : m.x.short
      · rw [if_neg (by simp)]
        exact r_load_block x D P m hok hq hc he hg hs w B h
      · rw [if_pos (.inr rfl)]
        exact r_load_late x D P m hok hq hc he hg hs w B h
  · rw [if_pos he]
    exact r_load_err x D P m hok hq hc he w B h
end Go.Proofs.YtignfbdgpgidpaaGreatDoor
