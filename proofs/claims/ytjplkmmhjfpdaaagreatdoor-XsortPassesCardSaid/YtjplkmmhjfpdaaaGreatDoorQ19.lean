/- In one text: Rd6, Rd7. -/
import Derived.Test.YtjplkmmhjfpdaaaGreatDoorQ18
import Derived.Test.YtjplkmmhjfpdaaaGreatDoorQ04
/- The program's reader: load. -/
namespace Go.Proofs.YtjplkmmhjfpdaaaGreatDoor
open Go.RowKit FsPlain CrcPlain OctPlain FramePlain RecPlain RdPlain
set_option linter.unusedVariables false
set_option linter.unusedSimpArgs false
set_option maxRecDepth 20000
theorem r_end (x D P : Nat) (m : N3) (S : ByteArray) (t : Bool) (e : Int) (hl : S.size ≤ m.x.left) (hY : (eB S = true ∧ S.size = m.x.left ∧ eC S = (m.x.told : Nat) ∧ eM S = (sumN m.x.all : Nat)) → t = true ∧ e = 0) (hN : ¬ (eB S = true ∧ S.size = m.x.left ∧ eC S = (m.x.told : Nat) ∧ eM S = (sumN m.x.all : Nat)) → t = false ∧ e = 6) (w : World) (B : Nat → Prop) (h : RO x D P m false w B) :
    Calls Tryz.prog 169 #[.pointer (some ⟨x, 0, none⟩), .string S] w (Does w B (RO x D P m t) (.int .i64 e)) := by
  cases h1 : eB S
  · obtain ⟨rfl, rfl⟩ := hN (by rw [h1]; simp)
    exact r_end_none x D P m S h1 w B h
  · by_cases h2 : S.size = m.x.left
    · by_cases h3 : eC S = (m.x.told : Nat) ∧ eM S = (sumN m.x.all : Nat)
      · obtain ⟨rfl, rfl⟩ := hY ⟨h1, h2, h3⟩
        exact r_end_whole x D P m S h1 h2 h3.1 h3.2 w B h
      · obtain ⟨rfl, rfl⟩ := hN (fun k => h3 k.2.2)
        exact r_end_odd x D P m S h1 h2 h3 w B h
    · obtain ⟨rfl, rfl⟩ := hN (fun k => h2 k.2.1)
      exact r_end_part x D P m S h1 (by omega) w B h
def RdPlain.loadN (m : N3) : N3 × Bool × Int :=
  if ¬ errN m = 0 then (m.asked, false, errN m)
  else if isEnd m.x (bytesN m) then (m.asked, true, 0)
  else if gB m.x.size (bytesN m) = false ∨ m.x.short = true then (m.asked, false, 6)
  else (m.asked.filled (bytesN m), false, 0)
theorem ask_room (x : Rs) (hz : sizeB x.size = true) : ∃ rn n : Nat, roomN x.size = (rn : Int) ∧ max (rn : Int) 17 = (n : Nat) ∧ min n x.left = askN x ∧ n ≤ 261 := by
  have hs : 1 ≤ x.size ∧ x.size ≤ 64 := by simpa [sizeB] using hz
  have hr : roomN x.size = 5 + 4 * x.size := by unfold roomN; rw [if_pos hz]
  refine ⟨(roomN x.size).toNat, max 17 (roomN x.size).toNat, ?_, ?_, ?_, ?_⟩
  · rw [hr]; omega
  · rw [hr]; omega
  · unfold askN; omega
  · rw [hr]; omega
theorem r_look (x D P : Nat) (m : N3) (n : Nat) (vq : Value) (hok : m.ok) (hc : m.s.calls ≤ 1000000000000) (hn : min n m.x.left = askN m.x) (hn2 : n ≤ 261) (w : World) (B : Nat → Prop) (h : stars (rol x D P m.s m.b (rdc D P m.x vq (sumN m.x.all) false) vq m.x.queue) w B) :
    Calls Tryz.prog 133 #[.pointer (some ⟨x, 0, none⟩), .int .i64 (n : Nat)] w (Does w B (stars (rol x D P m.s.call m.b (rdc D P m.x vq (sumN m.x.all) false) vq m.x.queue)) (.tuple #[.string (bytesN m), .int .i64 (errN m)])) := by
  have hf := hok.fit
  unfold bytesN errN
  rw [← hn]
  exact does_pre [Blk x (rdc D P m.x vq (sumN m.x.all) false) 146, DiskA D m.s] (L' := [Blk x (rdc D P m.x vq (sumN m.x.all) false) 146, DiskA D m.s.call]) (M := [QueA vq m.x.queue, BuA P m.b]) ⟨fr_que _ _, fr_bu _ _, trivial⟩ h fun B1 h1 => src_look x D _ _ m.s m.x.nm m.x.pos m.x.left n (src_rdc _ _ _ _ _ _) hok.n1 hok.n2 hc hf (by omega) w B1 h1
set_option maxHeartbeats 4000000 in
theorem r_load_err (x D P : Nat) (m : N3) (hok : m.ok) (hq : m.x.queue = []) (hc : m.s.calls ≤ 1000000000000) (he : ¬ errN m = 0) (w : World) (B : Nat → Prop) (h : RO x D P m false w B) :
    Calls Tryz.prog 137 #[.pointer (some ⟨x, 0, none⟩)] w (Does w B (RO x D P m.asked false) (.int .i64 (errN m))) := by
  obtain ⟨vq, h⟩ := h
  have hb := rol_blk h
  have hz := hok.z
  have hs2 : 1 ≤ m.x.size ∧ m.x.size ≤ 64 := by simpa [sizeB] using hz
  obtain ⟨rn, n, hrn, ax, hn, hn2⟩ := ask_room m.x hz
  obtain ⟨t, ht⟩ : ∃ t, t = bytesN m := ⟨_, rfl⟩
  obtain ⟨er, her⟩ : ∃ er, er = errN m := ⟨_, rfl⟩
  have K0 : ∀ u, Gr w u → u.cell? ⟨x, 5, none⟩ = some (.int .i64 m.x.size) := fun u g => by
    have hb := rol_blk (stars_gr (frs_rol _ _ _ _ _ _ _ _) h g)
    rw [cells_at hb]; rfl
  have CL : ∀ u, Gr w u → Calls Tryz.prog 133 #[.pointer (some ⟨x, 0, none⟩), .int .i64 (n : Nat)] u fun e w' => e = .returned (.tuple #[.string t, .int .i64 er]) ∧ (∃ B', stars (rol x D P m.s.call m.b (rdc D P m.x vq (sumN m.x.all) false) vq m.x.queue) w' B' ∧ Nx B w B' w') ∧ w'.cell? ⟨x, 5, none⟩ = some (.int .i64 m.x.size) := fun u g => by
    rw [ht, her]
    refine (r_look x D P m n vq hok hc hn hn2 u B (stars_gr (frs_rol _ _ _ _ _ _ _ _) h g)).mono ?_
    rintro e w' ⟨he, B', h', n'⟩
    exact ⟨he, ⟨B', h', (Nx.gr g).trans n'⟩, by rw [cells_at (rol_blk h')]; rfl⟩
  have CM : ∀ u, Gr w u → Calls Tryz.prog 110 #[.int .i64 m.x.size] u fun e w' => e = .returned (.int .i64 (rn : Nat)) ∧ Gr w w' := fun u g => by
    rw [← hrn]
    exact (room_c m.x.size (by unfold I64; omega) u).mono fun e w' ⟨he, hw⟩ => ⟨he, by rw [← hw]; exact g⟩
  have hmax : max (rn : Int) 17 = rn ∨ max (rn : Int) 17 = 17 := by omega
  have KS := Lib.hid K0
  have CLH := Lib.hid CL
  have CMH := Lib.hid CM
  have gU := Gr.refl w
  have gUd : Gr w w.drew := Below.drew gU
  have he0 : ¬ er = 0 := by rw [her]; exact he
  have t1 : (er == 0) = false := by simpa using he0
  have t2' : (er != 0) = true := by simpa using he0
  rw [← her]
  clear h hb hz K0 CL CM hrn hn ht her hok hq he he0
  go_enter Tryz.func137, Tryz.ntmps137
  go_wp2_with fail
  go_region_held3 (fun w' => w'.cell? ⟨x, 5, none⟩ = some (.int .i64 m.x.size)) (first | exact KS.out _ gUd | exact KS.out _ (by assumption) | assumption | go_keep)
    ((first
      | (go_at_call 110; (with_reducible refine (CMH.out _ (by assumption)).mono ?_); rintro e t1 ⟨rfl, g1⟩)
      | (go_at_call 133; refine (CLH.out _ (by assumption)).mono ?_; rintro e t2 ⟨rfl, hst, hks⟩)))
  obtain ⟨B2, h2, n2⟩ := hst
  have H2 := Lib.hid h2
  have N2 := Lib.hid n2
  clear h2 n2
  go_wp2_with fail
  go_ret
  exact ⟨rfl, B2, ⟨_, H2.out⟩, N2.out⟩
set_option maxHeartbeats 4000000 in
theorem r_load_late (x D P : Nat) (m : N3) (hok : m.ok) (hq : m.x.queue = []) (hc : m.s.calls ≤ 1000000000000) (he : errN m = 0) (hg : gB m.x.size (bytesN m) = true) (hs : m.x.short = true) (w : World) (B : Nat → Prop) (h : RO x D P m false w B) :
    Calls Tryz.prog 137 #[.pointer (some ⟨x, 0, none⟩)] w (Does w B (RO x D P m.asked false) (.int .i64 6)) := by
  obtain ⟨vq, h⟩ := h
  have hb := rol_blk h
  have hz := hok.z
  have hs2 : 1 ≤ m.x.size ∧ m.x.size ≤ 64 := by simpa [sizeB] using hz
  obtain ⟨rn, n, hrn, ax, hn, hn2⟩ := ask_room m.x hz
  obtain ⟨t, ht⟩ : ∃ t, t = bytesN m := ⟨_, rfl⟩
  obtain ⟨er, her⟩ : ∃ er, er = errN m := ⟨_, rfl⟩
  have K0 : ∀ u, Gr w u → u.cell? ⟨x, 5, none⟩ = some (.int .i64 m.x.size) := fun u g => by
    have hb := rol_blk (stars_gr (frs_rol _ _ _ _ _ _ _ _) h g)
    rw [cells_at hb]; rfl
  have CL : ∀ u, Gr w u → Calls Tryz.prog 133 #[.pointer (some ⟨x, 0, none⟩), .int .i64 (n : Nat)] u fun e w' => e = .returned (.tuple #[.string t, .int .i64 er]) ∧ (∃ B', stars (rol x D P m.s.call m.b (rdc D P m.x vq (sumN m.x.all) false) vq m.x.queue) w' B' ∧ Nx B w B' w') ∧ w'.cell? ⟨x, 5, none⟩ = some (.int .i64 m.x.size) := fun u g => by
    rw [ht, her]
    refine (r_look x D P m n vq hok hc hn hn2 u B (stars_gr (frs_rol _ _ _ _ _ _ _ _) h g)).mono ?_
    rintro e w' ⟨he, B', h', n'⟩
    exact ⟨he, ⟨B', h', (Nx.gr g).trans n'⟩, by rw [cells_at (rol_blk h')]; rfl⟩
  have CM : ∀ u, Gr w u → Calls Tryz.prog 110 #[.int .i64 m.x.size] u fun e w' => e = .returned (.int .i64 (rn : Nat)) ∧ Gr w w' := fun u g => by
    rw [← hrn]
    exact (room_c m.x.size (by unfold I64; omega) u).mono fun e w' ⟨he, hw⟩ => ⟨he, by rw [← hw]; exact g⟩
  have hmax : max (rn : Int) 17 = rn ∨ max (rn : Int) 17 = 17 := by omega
  have KS := Lib.hid K0
  have CLH := Lib.hid CL
  have CMH := Lib.hid CM
  have gU := Gr.refl w
  have gUd : Gr w w.drew := Below.drew gU
  have he0 : er = 0 := by rw [her]; exact he
  have hts : t.size = askN m.x := by rw [ht]; exact bytesN_size he
  have hle := ask_left m.x
  have CG := Lib.hid (fun u => fget_c t m.x.size (by unfold I64; omega) u (by have := hn; omega))
  unfold FGot at CG
  rw [← ht] at hg
  subst he0
  obtain ⟨gb, hgb⟩ : ∃ gb, gb = gB m.x.size t := ⟨_, rfl⟩
  obtain ⟨gn, hgn⟩ : ∃ gn, gn = gN m.x.size t := ⟨_, rfl⟩
  obtain ⟨gl, hgl⟩ : ∃ gl, gl = gL m.x.size t := ⟨_, rfl⟩
  rw [← hgb, ← hgn, ← hgl] at CG
  rw [← hgb] at hg
  subst hg
  have CB := Lib.hid (fun v w1 B1 (h1 : RO x D P m.asked false w1 B1) => r_block_late x D P m.asked v gn hs w1 B1 h1)
  clear h hb hz K0 CL CM hrn hn ht her hok hq he hts hgb hgn hgl hs
  go_enter Tryz.func137, Tryz.ntmps137
  go_wp2_with fail
  go_region_held3 (fun w' => w'.cell? ⟨x, 5, none⟩ = some (.int .i64 m.x.size)) (first | exact KS.out _ gUd | exact KS.out _ (by assumption) | assumption | go_keep)
    ((first
      | (go_at_call 110; (with_reducible refine (CMH.out _ (by assumption)).mono ?_); rintro e t1 ⟨rfl, g1⟩)
      | (go_at_call 133; refine (CLH.out _ (by assumption)).mono ?_; rintro e t2 ⟨rfl, hst, hks⟩)))
  obtain ⟨B2, h2, n2⟩ := hst
  have H2 := Lib.hid h2
  have N2 := Lib.hid n2
  clear h2 n2
  go_wp2_with fail
  refine (CG.out _).mono ?_; rintro e u3 ⟨v3, rfl, ho3, g3⟩
  have CB1 := Lib.hid (CB.out v3 u3 B2 (star_gr (fr_ro _ _ _ _ _) ⟨_, H2.out⟩ g3))
  have N3 := Lib.hid (N2.out.trans (Nx.gr g3))
  clear ho3 g3
  go_wp2_with fail
  refine CB1.out.mono ?_; rintro e w5 hd
  obtain ⟨rfl, B5, h5, n5⟩ := hd
  have H5 := Lib.hid h5
  have N5 := Lib.hid (N3.out.trans n5)
  clear h5 n5 CB1
  go_wp2_with fail
  go_ret
  exact ⟨rfl, B5, H5.out, N5.out⟩
set_option maxHeartbeats 4000000 in
theorem r_load_block (x D P : Nat) (m : N3) (hok : m.ok) (hq : m.x.queue = []) (hc : m.s.calls ≤ 1000000000000) (he : errN m = 0) (hg : gB m.x.size (bytesN m) = true) (hs : m.x.short = false) (w : World) (B : Nat → Prop) (h : RO x D P m false w B) :
    Calls Tryz.prog 137 #[.pointer (some ⟨x, 0, none⟩)] w (Does w B (RO x D P (m.asked.filled (bytesN m)) false) (.int .i64 0)) := by
  obtain ⟨vq, h⟩ := h
  have hb := rol_blk h
  have hz := hok.z
  have hs2 : 1 ≤ m.x.size ∧ m.x.size ≤ 64 := by simpa [sizeB] using hz
  obtain ⟨rn, n, hrn, ax, hn, hn2⟩ := ask_room m.x hz
  obtain ⟨t, ht⟩ : ∃ t, t = bytesN m := ⟨_, rfl⟩
  obtain ⟨er, her⟩ : ∃ er, er = errN m := ⟨_, rfl⟩
  have K0 : ∀ u, Gr w u → u.cell? ⟨x, 5, none⟩ = some (.int .i64 m.x.size) := fun u g => by
    have hb := rol_blk (stars_gr (frs_rol _ _ _ _ _ _ _ _) h g)
    rw [cells_at hb]; rfl
  have CL : ∀ u, Gr w u → Calls Tryz.prog 133 #[.pointer (some ⟨x, 0, none⟩), .int .i64 (n : Nat)] u fun e w' => e = .returned (.tuple #[.string t, .int .i64 er]) ∧ (∃ B', stars (rol x D P m.s.call m.b (rdc D P m.x vq (sumN m.x.all) false) vq m.x.queue) w' B' ∧ Nx B w B' w') ∧ w'.cell? ⟨x, 5, none⟩ = some (.int .i64 m.x.size) := fun u g => by
    rw [ht, her]
    refine (r_look x D P m n vq hok hc hn hn2 u B (stars_gr (frs_rol _ _ _ _ _ _ _ _) h g)).mono ?_
    rintro e w' ⟨he, B', h', n'⟩
    exact ⟨he, ⟨B', h', (Nx.gr g).trans n'⟩, by rw [cells_at (rol_blk h')]; rfl⟩
  have CM : ∀ u, Gr w u → Calls Tryz.prog 110 #[.int .i64 m.x.size] u fun e w' => e = .returned (.int .i64 (rn : Nat)) ∧ Gr w w' := fun u g => by
    rw [← hrn]
    exact (room_c m.x.size (by unfold I64; omega) u).mono fun e w' ⟨he, hw⟩ => ⟨he, by rw [← hw]; exact g⟩
  have hmax : max (rn : Int) 17 = rn ∨ max (rn : Int) 17 = 17 := by omega
  have KS := Lib.hid K0
  have CLH := Lib.hid CL
  have CMH := Lib.hid CM
  have gU := Gr.refl w
  have gUd : Gr w w.drew := Below.drew gU
  have he0 : er = 0 := by rw [her]; exact he
  have hts : t.size = askN m.x := by rw [ht]; exact bytesN_size he
  have hle := ask_left m.x
  have CG := Lib.hid (fun u => fget_c t m.x.size (by unfold I64; omega) u (by have := hn; omega))
  unfold FGot at CG
  rw [← ht] at hg
  subst he0
  obtain ⟨z1, z2, z3⟩ := gL_size hg
  obtain ⟨_, gn, hgn, hgn2, _⟩ := get_is hg
  have hM : m.asked.filled (bytesN m) = ⟨m.s.call, m.b, { m.x with short := decide ((gL m.x.size t).length < 4), queue := gL m.x.size t, all := m.x.all ++ gL m.x.size t, pos := m.x.pos + gn, left := m.x.left - gn }⟩ := by
    unfold N3.filled; rw [← ht, show gN m.asked.x.size t = (gn : Nat) from hgn]; rfl
  have hfit := hok.fit
  rw [hgn] at CG
  obtain ⟨gb, hgb⟩ : ∃ gb, gb = gB m.x.size t := ⟨_, rfl⟩
  obtain ⟨gl, hgl⟩ : ∃ gl, gl = gL m.x.size t := ⟨_, rfl⟩
  rw [← hgb, ← hgl] at CG
  rw [← hgl] at hM z2 z3
  rw [← hgb] at hg
  subst hg
  obtain ⟨M, hMM⟩ : ∃ M, M = m.asked.filled (bytesN m) := ⟨_, rfl⟩
  rw [← hMM] at hM ⊢
  have CB := Lib.hid (fun v w1 B1 (h1 : stars (rol x D P m.s.call m.b (rdc D P m.x vq (sumN m.x.all) false) v gl) w1 B1) => r_block x D P m.asked v vq gl gn M hM hs z2 (fun r hr => by have := z3 r hr; omega) (show gn ≤ m.x.left by omega) hfit w1 B1 h1)
  clear h hb hz K0 CL CM hrn hn ht her hok hq he hts hgb hgn hgn2 hgl hs z1 z2 z3 hM hMM hfit
  go_enter Tryz.func137, Tryz.ntmps137
  go_wp2_with fail
  go_region_held3 (fun w' => w'.cell? ⟨x, 5, none⟩ = some (.int .i64 m.x.size)) (first | exact KS.out _ gUd | exact KS.out _ (by assumption) | assumption | go_keep)
    ((first
      | (go_at_call 110; (with_reducible refine (CMH.out _ (by assumption)).mono ?_); rintro e t1 ⟨rfl, g1⟩)
      | (go_at_call 133; refine (CLH.out _ (by assumption)).mono ?_; rintro e t2 ⟨rfl, hst, hks⟩)))
  obtain ⟨B2, h2, n2⟩ := hst
  have H2 := Lib.hid h2
  have N2 := Lib.hid n2
  clear h2 n2
  go_wp2_with fail
  refine (CG.out _).mono ?_; rintro e u3 ⟨v3, rfl, ho3, g3⟩
  obtain ⟨q1, q2⟩ := que_new ho3
  obtain ⟨B3, h3, n3⟩ := part_new (frs_rol _ _ _ _ _ _ _ _) H2.out g3 q1 q2
  obtain ⟨B4, h4, n4⟩ := rol_queue h3
  have CB1 := Lib.hid (CB.out v3 u3 B4 h4)
  have N4 := Lib.hid ((N2.out.trans n3).trans n4)
  clear ho3 g3 q1 q2 h3 n3 h4 n4
  go_wp2_with fail
  refine CB1.out.mono ?_; rintro e w5 hd
  obtain ⟨rfl, B5, h5, n5⟩ := hd
  have H5 := Lib.hid h5
  have N5 := Lib.hid (N4.out.trans n5)
  clear h5 n5 CB1
  go_wp2_with fail
  go_ret
  exact ⟨rfl, B5, H5.out, N5.out⟩
set_option maxHeartbeats 4000000 in
theorem r_load_end (x D P : Nat) (m : N3) (hok : m.ok) (hq : m.x.queue = []) (hc : m.s.calls ≤ 1000000000000) (he : errN m = 0) (hg : gB m.x.size (bytesN m) = false) (tt : Bool) (ee : Int) (hY : isEnd m.x (bytesN m) → tt = true ∧ ee = 0) (hN : ¬ isEnd m.x (bytesN m) → tt = false ∧ ee = 6) (w : World) (B : Nat → Prop) (h : RO x D P m false w B) :
    Calls Tryz.prog 137 #[.pointer (some ⟨x, 0, none⟩)] w (Does w B (RO x D P m.asked tt) (.int .i64 ee)) := by
  obtain ⟨vq, h⟩ := h
  have hb := rol_blk h
  have hz := hok.z
  have hs2 : 1 ≤ m.x.size ∧ m.x.size ≤ 64 := by simpa [sizeB] using hz
  obtain ⟨rn, n, hrn, ax, hn, hn2⟩ := ask_room m.x hz
  obtain ⟨t, ht⟩ : ∃ t, t = bytesN m := ⟨_, rfl⟩
  obtain ⟨er, her⟩ : ∃ er, er = errN m := ⟨_, rfl⟩
  have K0 : ∀ u, Gr w u → u.cell? ⟨x, 5, none⟩ = some (.int .i64 m.x.size) := fun u g => by
    have hb := rol_blk (stars_gr (frs_rol _ _ _ _ _ _ _ _) h g)
    rw [cells_at hb]; rfl
  have CL : ∀ u, Gr w u → Calls Tryz.prog 133 #[.pointer (some ⟨x, 0, none⟩), .int .i64 (n : Nat)] u fun e w' => e = .returned (.tuple #[.string t, .int .i64 er]) ∧ (∃ B', stars (rol x D P m.s.call m.b (rdc D P m.x vq (sumN m.x.all) false) vq m.x.queue) w' B' ∧ Nx B w B' w') ∧ w'.cell? ⟨x, 5, none⟩ = some (.int .i64 m.x.size) := fun u g => by
    rw [ht, her]
    refine (r_look x D P m n vq hok hc hn hn2 u B (stars_gr (frs_rol _ _ _ _ _ _ _ _) h g)).mono ?_
    rintro e w' ⟨he, B', h', n'⟩
    exact ⟨he, ⟨B', h', (Nx.gr g).trans n'⟩, by rw [cells_at (rol_blk h')]; rfl⟩
  have CM : ∀ u, Gr w u → Calls Tryz.prog 110 #[.int .i64 m.x.size] u fun e w' => e = .returned (.int .i64 (rn : Nat)) ∧ Gr w w' := fun u g => by
    rw [← hrn]
    exact (room_c m.x.size (by unfold I64; omega) u).mono fun e w' ⟨he, hw⟩ => ⟨he, by rw [← hw]; exact g⟩
  have hmax : max (rn : Int) 17 = rn ∨ max (rn : Int) 17 = 17 := by omega
  have KS := Lib.hid K0
  have CLH := Lib.hid CL
  have CMH := Lib.hid CM
  have gU := Gr.refl w
  have gUd : Gr w w.drew := Below.drew gU
  have hg0 := hg
  have he0 : er = 0 := by rw [her]; exact he
  have hts : t.size = askN m.x := by rw [ht]; exact bytesN_size he
  have hle := ask_left m.x
  have CG := Lib.hid (fun u => fget_c t m.x.size (by unfold I64; omega) u (by have := hn; omega))
  unfold FGot at CG
  rw [← ht] at hg
  subst he0
  have hcnt := hok.cnt
  rw [hq] at hcnt
  have hcnt : m.x.all.length = m.x.told := by simpa using hcnt
  have hIs : isEnd m.x (bytesN m) ↔ (eB t = true ∧ t.size = m.x.left ∧ eC t = (m.x.told : Nat) ∧ eM t = (sumN m.x.all : Nat)) := by
    unfold isEnd; rw [← hcnt, ht]; exact ⟨fun k => k.2, fun k => ⟨hg0, k⟩⟩
  have CE := Lib.hid (fun w1 B1 (h1 : RO x D P m.asked false w1 B1) => r_end x D P m.asked t tt ee (show t.size ≤ m.x.left by omega) (fun k => hY (hIs.2 k)) (fun k => hN (fun j => k (hIs.1 j))) w1 B1 h1)
  obtain ⟨gb, hgb⟩ : ∃ gb, gb = gB m.x.size t := ⟨_, rfl⟩
  obtain ⟨gn, hgn⟩ : ∃ gn, gn = gN m.x.size t := ⟨_, rfl⟩
  obtain ⟨gl, hgl⟩ : ∃ gl, gl = gL m.x.size t := ⟨_, rfl⟩
  rw [← hgb, ← hgn, ← hgl] at CG
  rw [← hgb] at hg
  subst hg
  clear h hb hz K0 CL CM hrn hn ht her hok hq he hts hgb hgn hgl hg0 hcnt hIs hY hN
  go_enter Tryz.func137, Tryz.ntmps137
  go_wp2_with fail
  go_region_held3 (fun w' => w'.cell? ⟨x, 5, none⟩ = some (.int .i64 m.x.size)) (first | exact KS.out _ gUd | exact KS.out _ (by assumption) | assumption | go_keep)
    ((first
      | (go_at_call 110; (with_reducible refine (CMH.out _ (by assumption)).mono ?_); rintro e t1 ⟨rfl, g1⟩)
      | (go_at_call 133; refine (CLH.out _ (by assumption)).mono ?_; rintro e t2 ⟨rfl, hst, hks⟩)))
  obtain ⟨B2, h2, n2⟩ := hst
  have H2 := Lib.hid h2
  have N2 := Lib.hid n2
  clear h2 n2
  go_wp2_with fail
  refine (CG.out _).mono ?_; rintro e u3 ⟨v3, rfl, ho3, g3⟩
  have CE1 := Lib.hid (CE.out u3 B2 (star_gr (fr_ro _ _ _ _ _) ⟨_, H2.out⟩ g3))
  have N3 := Lib.hid (N2.out.trans (Nx.gr g3))
  clear ho3 g3
  go_wp2_with fail
  refine CE1.out.mono ?_; rintro e w5 hd
  obtain ⟨rfl, B5, h5, n5⟩ := hd
  have H5 := Lib.hid h5
  have N5 := Lib.hid (N3.out.trans n5)
  clear h5 n5 CE1
  go_wp2_with fail
  go_ret
  exact ⟨rfl, B5, H5.out, N5.out⟩
theorem r_load (x D P : Nat) (m : N3) (hok : m.ok) (hq : m.x.queue = []) (hc : m.s.calls ≤ 1000000000000) (w : World) (B : Nat → Prop) (h : RO x D P m false w B) :
    Calls Tryz.prog 137 #[.pointer (some ⟨x, 0, none⟩)] w (Does w B (RO x D P (loadN m).1 (loadN m).2.1) (.int .i64 (loadN m).2.2)) := by
  unfold loadN
  by_cases he : errN m = 0
  · rw [if_neg (by simpa using he)]
    cases hg : gB m.x.size (bytesN m)
    · by_cases hE : isEnd m.x (bytesN m)
      · rw [if_pos hE]
        exact r_load_end x D P m hok hq hc he hg true 0 (fun _ => ⟨rfl, rfl⟩) (fun k => absurd hE k) w B h
      · rw [if_neg hE, if_pos (.inl rfl)]
        exact r_load_end x D P m hok hq hc he hg false 6 (fun k => absurd k hE) (fun _ => ⟨rfl, rfl⟩) w B h
    · have hE : ¬ isEnd m.x (bytesN m) := fun hE => by have := hE.1; rw [hg] at this; cases this
      rw [if_neg hE]
      cases hs : m.x.short
      · rw [if_neg (by simp)]
        exact r_load_block x D P m hok hq hc he hg hs w B h
      · rw [if_pos (.inr rfl)]
        exact r_load_late x D P m hok hq hc he hg hs w B h
  · rw [if_pos he]
    exact r_load_err x D P m hok hq hc he w B h
end Go.Proofs.YtjplkmmhjfpdaaaGreatDoor
/- The program's reader: Next, Close, Count, Info. -/
namespace Go.Proofs.YtjplkmmhjfpdaaaGreatDoor
open Go.RowKit FsPlain CrcPlain OctPlain FramePlain RecPlain RdPlain
set_option linter.unusedVariables false
set_option linter.unusedSimpArgs false
set_option maxRecDepth 20000
theorem rsh_blk {x D P : Nat} {s : St} {b : Bu} {n k : Nat} {t : Bool} {w : World} {B : Nat → Prop} (h : RSh x D P s b n k t w B) : w.heap[x]? = some (.cells (rdshut n k t) 146 (0, 0)) := rol_blk h
set_option maxHeartbeats 2000000 in
theorem rp_closed (x D P : Nat) (m : N3) (hi : m.inv) (ho : m.x.opn = false) (w : World) (B : Nat → Prop) (h : RP3 x D P m w B) :
    Calls Tryz.prog 114 #[.pointer (some ⟨x, 0, none⟩)] w (Does w B (RP3 x D P m) (ansV (noneA (if m.x.bad = true then 14 else 0)))) := by
  have H := Lib.hid h
  have hb := rsh_blk (rp3_shut ho h)
  have c0 : w.cell? ⟨x, 0, none⟩ = some (.pointer none) := by rw [cells_at hb]; rfl
  have c10 : w.cell? ⟨x, 10, none⟩ = some (.bool m.x.whole) := by rw [cells_at hb]; rfl
  have CO := Lib.hid (ropen_no x w c0)
  have hw := hi.c ho
  obtain ⟨er, her⟩ : ∃ er : Int, er = (if m.x.bad = true then 14 else 0) := ⟨_, rfl⟩
  rw [← her]
  have CV : Calls Tryz.prog 136 #[.pointer (some ⟨x, 0, none⟩)] w fun e w' => e = .returned (.int .i64 er) ∧ w = w' := by
    rw [hw] at c10
    cases hb : m.x.bad
    · rw [hb] at c10 her; rw [her]; exact over_yes x w c10
    · rw [hb] at c10 her; rw [her]; exact over_no x w c10
  have CVH := Lib.hid CV
  clear h hb hi ho hw her CV c0 c10
  go_enter Tryz.func114, Tryz.ntmps114
  go_wp2_with fail
  refine CO.out.mono ?_; rintro e w2 ⟨rfl, rfl⟩
  go_wp2_with fail
  refine CVH.out.mono ?_; rintro e w2 ⟨rfl, rfl⟩
  go_wp2_with fail
  exact bodyPost_ret (v := ansV (noneA er)) (by simp [results, Tryz.results114, go_sem, ansV, noneA]) rfl ⟨rfl, B, H.out, Nx.refl _ _⟩
theorem ro_start {x D P : Nat} {m : N3} {t : Bool} {w : World} {B : Nat → Prop} (h : RO x D P m t w B) : w.cell? ⟨x, 0, none⟩ = some (.pointer (some ⟨D, 0, none⟩)) ∧ ∃ a c, w.cell? ⟨x, 6, none⟩ = some (.slice a m.x.queue.length c) := by
  obtain ⟨vq, h⟩ := h
  obtain ⟨_, hqa, _⟩ := part_at 2 rfl h
  obtain ⟨⟨a, c, rfl, _⟩, _⟩ := hqa
  have hb := rol_blk h
  exact ⟨by rw [cells_at hb]; rfl, a, c, by rw [cells_at hb]; rfl⟩
set_option maxHeartbeats 2000000 in
theorem rp_pop (x D P : Nat) (m : N3) (hok : m.ok) (ho : m.x.opn = true) (hq : m.x.queue ≠ []) (ht : m.x.told ≤ 100000) (w : World) (B : Nat → Prop) (h : RP3 x D P m w B) :
    Calls Tryz.prog 114 #[.pointer (some ⟨x, 0, none⟩)] w (Does w B (RP3 x D P (popN m).1) (ansV (popN m).2)) := by
  have h := rp3_open ho h
  obtain ⟨c0, a, c, c6⟩ := ro_start h
  obtain ⟨n, hn⟩ : ∃ n, m.x.queue.length = n := ⟨_, rfl⟩
  rw [hn] at c6
  have hn1 : 1 ≤ n := by rw [← hn]; exact List.length_pos_iff.2 hq
  have hn0 : ¬ (n : Int) = 0 := by omega
  have hn0' : ¬ n = 0 := by omega
  have CO := Lib.hid (ropen_yes x ⟨D, 0, none⟩ w c0)
  have CH := Lib.hid (r_hand x D P m hok.ql hq ht w B h)
  have HO := Lib.hid (show (popN m).1.x.opn = true from ho)
  obtain ⟨r, hr⟩ : ∃ r, r = (popN m).2.1 := ⟨_, rfl⟩
  have hv : (popN m).2 = (r, true, 0) := by rw [hr]; rfl
  rw [← hr] at CH
  rw [hv]
  clear h hok ho hq hn hr hv
  go_enter Tryz.func114, Tryz.ntmps114
  go_wp2_with fail
  refine CO.out.mono ?_; rintro e w2 ⟨rfl, rfl⟩
  go_wp2_with fail
  refine CH.out.mono ?_; rintro e w2 hd
  obtain ⟨rfl, B2, h2, n2⟩ := hd
  have H2 := Lib.hid h2
  have N2 := Lib.hid n2
  clear h2 n2 CH
  go_wp2_with fail
  exact bodyPost_ret (v := ansV (r, true, 0)) (by simp [results, Tryz.results114, go_sem, ansV]) rfl ⟨rfl, B2, .inl ⟨HO.out, H2.out⟩, N2.out⟩
theorem fill_shut {m : N3} (hi : m.inv) (ho : m.x.opn = true) (hq : m.x.queue = []) (hl : ¬ (loadN m).2.2 = 0 ∨ (loadN m).2.1 = true) : (fillN m).2 = noneA (loadN m).2.2 ∧ (fillN m).1.x.opn = false ∧ (fillN m).1.s = (loadN m).1.s ∧ (fillN m).1.b = (loadN m).1.b.give 4 ∧ (fillN m).1.x.told = (loadN m).1.x.told ∧ (fillN m).1.x.all = (loadN m).1.x.all ∧ (fillN m).1.x.whole = (loadN m).2.1 := by
  obtain ⟨h1, h2⟩ := hi.o ho
  have hw : wrongN m.asked = ⟨m.s.call, m.b.give 4, { m.x with bad := true, opn := false }⟩ := by
    unfold wrongN shutN; rw [if_pos (show m.asked.isBad.x.opn = true from ho)]; rfl
  have he : ∀ t, shutN (m.asked.ended t) = ⟨m.s.call, m.b.give 4, { m.x with whole := true, ec := eC t, em := eM t, opn := false }⟩ := by
    intro t; unfold shutN; rw [if_pos (show (m.asked.ended t).x.opn = true from ho)]; rfl
  by_cases k1 : errN m = 0
  · have n1 : ¬ ¬ errN m = 0 := fun h => h k1
    by_cases k2 : isEnd m.x (bytesN m)
    · have hL : loadN m = (m.asked, true, 0) := by unfold loadN; rw [if_neg n1, if_pos k2]
      have hF : fillN m = (shutN (m.asked.ended (bytesN m)), noneA 0) := by unfold fillN; rw [if_neg n1, if_pos k2]
      rw [hL, hF, he]
      exact ⟨rfl, rfl, rfl, rfl, rfl, rfl, rfl⟩
    · by_cases k3 : gB m.x.size (bytesN m) = false ∨ m.x.short = true
      · have hL : loadN m = (m.asked, false, 6) := by unfold loadN; rw [if_neg n1, if_neg k2, if_pos k3]
        have hF : fillN m = (wrongN m.asked, noneA 6) := by unfold fillN; rw [if_neg n1, if_neg k2, if_pos k3]
        rw [hL, hF, hw]
        exact ⟨rfl, rfl, rfl, rfl, rfl, rfl, h2⟩
      · have hL : loadN m = (m.asked.filled (bytesN m), false, 0) := by unfold loadN; rw [if_neg n1, if_neg k2, if_neg k3]
        rw [hL] at hl
        rcases hl with hl | hl
        · exact absurd rfl hl
        · cases hl
  · have hL : loadN m = (m.asked, false, errN m) := by unfold loadN; rw [if_pos k1]
    have hF : fillN m = (wrongN m.asked, noneA (errN m)) := by unfold fillN; rw [if_pos k1]
    rw [hL, hF, hw]
    exact ⟨rfl, rfl, rfl, rfl, rfl, rfl, h2⟩
theorem fill_block {m : N3} (hok : m.ok) (ho : m.x.opn = true) (hq : m.x.queue = []) (hl : (loadN m).2.2 = 0) (ht : (loadN m).2.1 = false) : fillN m = popN (loadN m).1 ∧ (loadN m).1.ok ∧ (loadN m).1.x.queue ≠ [] ∧ (loadN m).1.x.opn = true ∧ (loadN m).1.x.told = m.x.told := by
  by_cases k1 : errN m = 0
  · have n1 : ¬ ¬ errN m = 0 := fun h => h k1
    by_cases k2 : isEnd m.x (bytesN m)
    · have hL : loadN m = (m.asked, true, 0) := by unfold loadN; rw [if_neg n1, if_pos k2]
      rw [hL] at ht; cases ht
    · by_cases k3 : gB m.x.size (bytesN m) = false ∨ m.x.short = true
      · have hL : loadN m = (m.asked, false, 6) := by unfold loadN; rw [if_neg n1, if_neg k2, if_pos k3]
        rw [hL] at hl; simp at hl
      · have hL : loadN m = (m.asked.filled (bytesN m), false, 0) := by unfold loadN; rw [if_neg n1, if_neg k2, if_neg k3]
        have hF : fillN m = popN (m.asked.filled (bytesN m)) := by unfold fillN; rw [if_neg n1, if_neg k2, if_neg k3]
        rw [hL, hF]
        have hb : gB m.x.size (bytesN m) = true := by
          cases hb : gB m.x.size (bytesN m)
          · exact absurd (.inl hb) k3
          · rfl
        have hs := bytesN_size (m := m) k1
        obtain ⟨q1, q2⟩ := ok_filled (m := m.asked) (ok_asked hok) hb (by rw [hs]; exact ask_left _) hq
        exact ⟨rfl, q1, q2, ho, rfl⟩
  · have hL : loadN m = (m.asked, false, errN m) := by unfold loadN; rw [if_pos k1]
    rw [hL] at hl; exact absurd hl k1
set_option maxHeartbeats 2000000 in
theorem rp_fill_shut (x D P : Nat) (m : N3) (hok : m.ok) (hi : m.inv) (ho : m.x.opn = true) (hq : m.x.queue = []) (hc : m.s.calls ≤ 1000000000000) (hl : ¬ (loadN m).2.2 = 0 ∨ (loadN m).2.1 = true) (w : World) (B : Nat → Prop) (h : RP3 x D P m w B) :
    Calls Tryz.prog 114 #[.pointer (some ⟨x, 0, none⟩)] w (Does w B (RP3 x D P (fillN m).1) (ansV (fillN m).2)) := by
  have h := rp3_open ho h
  obtain ⟨c0, a, c, c6⟩ := ro_start h
  rw [hq] at c6
  obtain ⟨f1, f2, f3, f4, f5, f6, f7⟩ := fill_shut hi ho hq hl
  have CO := Lib.hid (ropen_yes x ⟨D, 0, none⟩ w c0)
  have CL := r_load x D P m hok hq hc w B h
  obtain ⟨⟨M, tt, ee⟩, hL⟩ : ∃ L, L = loadN m := ⟨_, rfl⟩
  rw [← hL] at CL f1 f3 f4 f5 f6 f7 hl
  have CS := Lib.hid (fun w1 B1 (h1 : RO x D P M tt w1 B1) => r_stop x D P M tt w1 B1 h1)
  have HF := Lib.hid (show ∀ w1 B1, RSh x D P M.s (M.b.give 4) M.x.told (sumN M.x.all) tt w1 B1 → RP3 x D P (fillN m).1 w1 B1 from fun w1 B1 h1 => .inr ⟨f2, by rw [f3, f4, f5, f6, f7]; exact h1⟩)
  rw [f1]
  have CLH := Lib.hid CL
  clear h hok hi ho hq hL f1 f2 f3 f4 f5 f6 f7 CL
  simp only [List.length_nil] at c6
  by_cases h0 : ee = 0
  · obtain rfl : tt = true := by rcases hl with hl | hl; exact absurd h0 hl; exact hl
    subst h0
    clear hl
    go_enter Tryz.func114, Tryz.ntmps114
    go_wp2_with fail
    refine CO.out.mono ?_; rintro e w2 ⟨rfl, rfl⟩
    go_wp2_with fail
    refine CLH.out.mono ?_; rintro e w2 hd
    obtain ⟨rfl, B2, h2, n2⟩ := hd
    obtain ⟨_, k2⟩ := ro_cells h2
    obtain ⟨_, _, _, c10, _⟩ := k2 _ (Gr.refl _)
    have CS1 := Lib.hid (CS.out w2 B2 h2)
    have N2 := Lib.hid n2
    clear h2 n2 CLH k2
    go_wp2_with fail
    refine CS1.out.mono ?_; rintro e w3 hd
    obtain ⟨rfl, B3, h3, n3⟩ := hd
    have H3 := Lib.hid (HF.out _ _ h3)
    have N3 := Lib.hid (N2.out.trans n3)
    clear h3 n3 CS1
    go_wp2_with fail
    exact bodyPost_ret (v := ansV (noneA 0)) (by simp [results, Tryz.results114, go_sem, ansV, noneA]) rfl ⟨rfl, B3, H3.out, N3.out⟩
  · have t1 : (ee == 0) = false := by simpa using h0
    have t2 : (ee != 0) = true := by simpa using h0
    clear hl h0
    go_enter Tryz.func114, Tryz.ntmps114
    go_wp2_with fail
    refine CO.out.mono ?_; rintro e w2 ⟨rfl, rfl⟩
    go_wp2_with fail
    refine CLH.out.mono ?_; rintro e w2 hd
    obtain ⟨rfl, B2, h2, n2⟩ := hd
    have CS1 := Lib.hid (CS.out w2 B2 h2)
    have N2 := Lib.hid n2
    clear h2 n2 CLH
    go_wp2_with fail
    refine CS1.out.mono ?_; rintro e w3 hd
    obtain ⟨rfl, B3, h3, n3⟩ := hd
    have H3 := Lib.hid (HF.out _ _ h3)
    have N3 := Lib.hid (N2.out.trans n3)
    clear h3 n3 CS1
    go_wp2_with fail
    exact bodyPost_ret (v := ansV (noneA ee)) (by simp [results, Tryz.results114, go_sem, ansV, noneA]) rfl ⟨rfl, B3, H3.out, N3.out⟩
set_option maxHeartbeats 2000000 in
theorem rp_fill_block (x D P : Nat) (m : N3) (hok : m.ok) (ho : m.x.opn = true) (hq : m.x.queue = []) (ht : m.x.told ≤ 100000) (hc : m.s.calls ≤ 1000000000000) (hl : (loadN m).2.2 = 0) (hl2 : (loadN m).2.1 = false) (w : World) (B : Nat → Prop) (h : RP3 x D P m w B) :
    Calls Tryz.prog 114 #[.pointer (some ⟨x, 0, none⟩)] w (Does w B (RP3 x D P (fillN m).1) (ansV (fillN m).2)) := by
  have h := rp3_open ho h
  obtain ⟨c0, a, c, c6⟩ := ro_start h
  rw [hq] at c6
  obtain ⟨f1, f2, f3, f4, f5⟩ := fill_block hok ho hq hl hl2
  have CO := Lib.hid (ropen_yes x ⟨D, 0, none⟩ w c0)
  have CL := r_load x D P m hok hq hc w B h
  obtain ⟨⟨M, tt, ee⟩, hL⟩ : ∃ L, L = loadN m := ⟨_, rfl⟩
  rw [← hL] at CL f1 f2 f3 f4 f5 hl hl2
  obtain rfl : tt = false := hl2
  obtain rfl : ee = 0 := hl
  rw [f1]
  obtain ⟨r, hr⟩ : ∃ r, r = (popN M).2.1 := ⟨_, rfl⟩
  have hv : (popN M).2 = (r, true, 0) := by rw [hr]; rfl
  have CH := Lib.hid (fun w1 B1 (h1 : RO x D P M false w1 B1) => r_hand x D P M f2.ql f3 (by rw [f5]; exact ht) w1 B1 h1)
  rw [← hr] at CH
  rw [hv]
  have HO := Lib.hid (show (popN M).1.x.opn = true from f4)
  have CLH := Lib.hid CL
  clear h hok ho hq hL f1 f2 f3 f4 f5 CL hr hv
  simp only [List.length_nil] at c6
  go_enter Tryz.func114, Tryz.ntmps114
  go_wp2_with fail
  refine CO.out.mono ?_; rintro e w2 ⟨rfl, rfl⟩
  go_wp2_with fail
  refine CLH.out.mono ?_; rintro e w2 hd
  obtain ⟨rfl, B2, h2, n2⟩ := hd
  obtain ⟨_, k2⟩ := ro_cells h2
  obtain ⟨_, _, _, c10, _⟩ := k2 _ (Gr.refl _)
  have CH1 := Lib.hid (CH.out w2 B2 h2)
  have N2 := Lib.hid n2
  clear h2 n2 CLH k2
  go_wp2_with fail
  refine CH1.out.mono ?_; rintro e w3 hd
  obtain ⟨rfl, B3, h3, n3⟩ := hd
  have H3 := Lib.hid h3
  have N3 := Lib.hid (N2.out.trans n3)
  clear h3 n3 CH1
  go_wp2_with fail
  exact bodyPost_ret (v := ansV (r, true, 0)) (by simp [results, Tryz.results114, go_sem, ansV]) rfl ⟨rfl, B3, .inl ⟨HO.out, H3.out⟩, N3.out⟩
theorem rp_next (x D P : Nat) (m : N3) (hok : m.ok) (hi : m.inv) (ht : m.x.told ≤ 50000) (hc : m.s.calls ≤ 1000000000000) (w : World) (B : Nat → Prop) (h : RP3 x D P m w B) :
    Calls Tryz.prog 114 #[.pointer (some ⟨x, 0, none⟩)] w (Does w B (RP3 x D P (nextN m).1) (ansV (nextN m).2)) := by
  unfold nextN
  cases ho : m.x.opn
  · exact rp_closed x D P m hi ho w B h
  · rw [if_neg (by decide)]
    by_cases hq : m.x.queue = []
    · rw [if_pos hq]
      by_cases hl : (loadN m).2.2 = 0
      · cases ht2 : (loadN m).2.1
        · exact rp_fill_block x D P m hok ho hq (by omega) hc hl ht2 w B h
        · exact rp_fill_shut x D P m hok hi ho hq hc (.inr ht2) w B h
      · exact rp_fill_shut x D P m hok hi ho hq hc (.inl hl) w B h
    · rw [if_neg hq]
      exact rp_pop x D P m hok ho hq (by omega) w B h
end Go.Proofs.YtjplkmmhjfpdaaaGreatDoor
