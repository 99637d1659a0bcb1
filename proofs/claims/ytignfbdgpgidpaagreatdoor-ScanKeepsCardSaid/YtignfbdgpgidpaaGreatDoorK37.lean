/- In one text: ScGo, ScGo2, ScGo3. -/
import Derived.Test.YtignfbdgpgidpaaGreatDoorK32
import Derived.Test.YtignfbdgpgidpaaGreatDoorK33
import Derived.Test.YtignfbdgpgidpaaGreatDoorK34
import Derived.Test.YtignfbdgpgidpaaGreatDoorK24
import Derived.Test.YtignfbdgpgidpaaGreatDoorK36
/- The program's Start on a disk that does not fall, where all goes well. -/
namespace Go.Proofs.YtignfbdgpgidpaaGreatDoor
open Go.RowKit FsPlain CrcPlain OctPlain RdPlain MnPlain CmPlain StPlain ScPlain
set_option linter.unusedVariables false
set_option linter.unusedSimpArgs false
set_option maxRecDepth 20000
section
variable {α : Type}
theorem perm_tidy (M : List α) (f d k b s : α) : (f :: d :: k :: b :: (M ++ [s])).Perm (k :: b :: s :: d :: (M ++ [f])) := by
  classical
  exact List.perm_iff_count.2 fun x => by simp [List.count_cons, List.count_append] <;> omega
theorem perm_start (M : List α) (d y z f g : α) : (d :: ((y :: z :: (M ++ [f])) ++ [g])).Perm (y :: z :: g :: d :: (M ++ [f])) := by
  classical
  exact List.perm_iff_count.2 fun x => by simp [List.count_cons, List.count_append] <;> omega
theorem perm_last (M : List α) (d b s : α) : (d :: b :: (M ++ [s])).Perm ([d, b, s] ++ M) := by
  classical
  exact List.perm_iff_count.2 fun x => by simp [List.count_cons, List.count_append] <;> omega
end
def mnz : Array Value := #[.int .i64 0, .int .i64 0, .slice none 0 0]
theorem mnz_at {u : World} {z : Nat} (h : u.heap[z]? = some (.cells mnz 27 (0, 0))) : u.cell? ⟨z, 0, none⟩ = some (.int .i64 0) ∧ u.cell? ⟨z, 1, none⟩ = some (.int .i64 0) ∧ u.cell? ⟨z, 2, none⟩ = some (.slice none 0 0) ∧ u.frozen? ⟨z, 0, none⟩ = false ∧ u.frozen? ⟨z, 1, none⟩ = false ∧ u.frozen? ⟨z, 2, none⟩ = false :=
  ⟨by rw [cells_at h]; rfl, by rw [cells_at h]; rfl, by rw [cells_at h]; rfl, cells_free h 0, cells_free h 1, cells_free h 2⟩
theorem mnv_at {u : World} {z : Nat} {x y v : Value} (h : u.heap[z]? = some (.cells #[x, y, v] 27 (0, 0))) : u.cell? ⟨z, 0, none⟩ = some x ∧ u.cell? ⟨z, 1, none⟩ = some y ∧ u.cell? ⟨z, 2, none⟩ = some v :=
  ⟨by rw [cells_at h]; rfl, by rw [cells_at h]; rfl, by rw [cells_at h]; rfl⟩
set_option maxHeartbeats 4000000 in
theorem fitting22_c {M : List Asn} {w u : World} {p : Nat} {s : St} {m : Mn} {b : Bool} {r : Int} (h : Ps (DiskA p s :: M) w u) (h1 : s.calls ≤ 1000000000) (hz : ∀ x, (loadE s).2 = some x → x.length ≤ 700) (hm : ldIs (loadE s) m b 0) (hr : I64 r) (hf : b = true → fitP m r = true ∧ Tab w ∧ (∀ f ∈ m.files, flK f) ∧ I64 m.stage ∧ I64 m.pass) :
    Calls Tryz.prog 56 #[.pointer (some ⟨p, 0, none⟩), .int .i64 r] u fun e w' => ∃ (a : Option Addr) (c : Nat), e = .returned (.tuple #[.agg #[.int .i64 m.stage, .int .i64 m.pass, .slice a m.files.length c], .int .i64 0]) ∧ Ps (DiskA p (loadT s) :: (M ++ [FlA (.slice a m.files.length c) m.files])) w w' := by
  have d1 := Qs.blk_new h mnz 27 rfl
  obtain ⟨V, hV⟩ : ∃ V, u.alloc (.cells mnz 27) = V := ⟨_, rfl⟩
  rw [hV] at d1
  obtain ⟨z, hzz⟩ : ∃ z, u.heap.size = z := ⟨_, rfl⟩
  rw [hzz] at d1
  have d2 : Pd20 p s (Blk z mnz 27 :: M) w V := d1.perm (List.Perm.swap _ _ _)
  have LD := Lib.hid (pd_load d2 h1 hz)
  have HV := Lib.hid (show u.alloc (.cells #[.int .i64 0, .int .i64 0, .slice none 0 0] 27) = V from hV)
  have HZ := Lib.hid hzz
  have HM := Lib.hid hm
  have HF := Lib.hid hf
  clear h h1 hz hm hf d1 d2 hV hzz
  go_enter Tryz.func56, Tryz.ntmps56
  go_wp2_with fail
  rw [HZ.out, HV.out]
  refine LD.out.mono ?_; rintro e w2 ⟨m', a, c, b', code, rfl, hlen, hld, d3⟩
  obtain ⟨rfl, rfl, rfl⟩ := ldIs_one HM.out hld
  have eb := heap_alloc_new w2 (.cells #[.int .i64 m'.stage, .int .i64 m'.pass, .slice a m'.files.length c] 27)
  have ge := gr22 w2 (.cells #[.int .i64 m'.stage, .int .i64 m'.pass, .slice a m'.files.length c] 27)
  obtain ⟨X, hX⟩ : ∃ X, w2.alloc (.cells #[.int .i64 m'.stage, .int .i64 m'.pass, .slice a m'.files.length c] 27) = X := ⟨_, rfl⟩
  obtain ⟨y, hy⟩ : ∃ y, w2.heap.size = y := ⟨_, rfl⟩
  rw [hX] at eb ge
  rw [hy] at eb
  have d4 : Ps (DiskA p (loadT s) :: Blk z mnz 27 :: (M ++ [FlA (.slice a m'.files.length c) m'.files])) w X := Qs.on d3 ge
  have D4 := Lib.hid d4
  have EB := Lib.hid eb
  have HX := Lib.hid hX
  have HY := Lib.hid hy
  have FIN := Lib.hid (fun v (g : Gr X v) => (D4.out.on g).set3 1 rfl rfl (.int .i64 m'.stage) (.int .i64 m'.pass) (.slice a m'.files.length c))
  have KZ := Lib.hid (fun v (g : Gr X v) => mnz_at ((D4.out.on g).blk 1 rfl))
  have KY := Lib.hid (fun v (g : Gr X v) => mnv_at ((Below.block g y (lt_of_block EB.out)).trans EB.out))
  have FC := Lib.hid (fun (hb : b' = true) => by
    obtain ⟨f1, f2, f3, f4, f5⟩ := HF.out hb
    obtain ⟨_, hl⟩ := Qs.part D4.out (M.length + 2) (Q := FlA (.slice a m'.files.length c) m'.files) (by simp)
    have h := fits21_c m' r X (fl_lies hl) hlen f3 f4 f5 hr (f2.gr (Qs.gr D4.out))
    rw [f1] at h
    exact h)
  obtain ⟨st, hst⟩ : ∃ k, m'.stage = k := ⟨_, rfl⟩
  obtain ⟨ps, hps⟩ : ∃ k, m'.pass = k := ⟨_, rfl⟩
  obtain ⟨n, hn⟩ : ∃ k, m'.files.length = k := ⟨_, rfl⟩
  obtain ⟨l, hl⟩ : ∃ k, m'.files = k := ⟨_, rfl⟩
  rw [hst, hps, hn] at FC FIN KY HX
  rw [hl] at FIN
  rw [hst, hps, hn]
  have HE := Lib.hid (And.intro hst (And.intro hps (And.intro hn hl)))
  clear d3 d4 hld hlen eb ge hX hy LD hst hps hn hl EB
  cases b' with
  | false =>
    have hk := KZ.out X (Gr.refl _)
    rw [← HX.out] at hk
    obtain ⟨k0, k1, k2, k3, k4, k5⟩ := hk
    have F := Lib.hid (FIN.out X (Gr.refl _))
    clear FC
    go_wp2_with fail
    rw [HX.out]
    refine bodyPost_ret (by exact mn_results2 rfl rfl rfl (F.out.blk 1 rfl)) rfl ?_
    rw [HE.out.1, HE.out.2.1, HE.out.2.2.1, HE.out.2.2.2]
    refine ⟨a, c, rfl, ?_⟩
    exact (F.out.perm (List.Perm.swap _ _ _)).tail
  | true =>
    have FCX := Lib.hid (FC.out rfl)
    obtain ⟨y0, y1, y2⟩ := KY.out X (Gr.refl _)
    clear FC
    go_wp2_with fail
    rw [HX.out]
    try rw [HY.out]
    refine FCX.out.mono ?_; rintro e w3 ⟨rfl, g3⟩
    obtain ⟨k0, k1, k2, k3, k4, k5⟩ := KZ.out w3 g3
    obtain ⟨z0, z1, z2⟩ := KY.out w3 g3
    have F := Lib.hid (FIN.out w3 g3)
    clear g3 FCX y0 y1 y2
    go_wp2_with fail
    refine bodyPost_ret (by exact mn_results2 rfl rfl rfl (F.out.blk 1 rfl)) rfl ?_
    rw [HE.out.1, HE.out.2.1, HE.out.2.2.1, HE.out.2.2.2]
    refine ⟨a, c, rfl, ?_⟩
    exact (F.out.perm (List.Perm.swap _ _ _)).tail
end Go.Proofs.YtignfbdgpgidpaaGreatDoor
/- The program's tidy and Start on a disk that does not fall, where all goes well. -/
namespace Go.Proofs.YtignfbdgpgidpaaGreatDoor
open Go.RowKit FsPlain CrcPlain OctPlain RdPlain MnPlain CmPlain StPlain ScPlain
set_option linter.unusedVariables false
set_option linter.unusedSimpArgs false
set_option maxRecDepth 20000
theorem calm_list {s : St} (hd : s.down = false) (ha : s.ahead = -1) : listL s = namesL s ∧ s.call.code = 0 := by
  have h := (quiet_call s).calm hd ha
  unfold listL
  rw [code_down, h.1]
  exact ⟨rfl, rfl⟩
set_option maxHeartbeats 4000000 in
theorem tidy22_c {M : List Asn} {w u : World} {p : Nat} {s : St} (m : Mn) {a : Option Addr} {n c : Nat} (h : Ps (DiskA p s :: M) w u) (hfl : ∀ (P : List Asn) (wr : World), Ps (P ++ M) w wr → LiesFl wr (.slice a n c) m.files) (hd : s.down = false) (ha : s.ahead = -1) (hc : s.calls ≤ 900000000) (hl : m.files.length ≤ 1000) (hN : ∀ f ∈ m.files, f.name.size ≤ 1000) (hrt : ∀ f ∈ s.fs, rightB f.name = true) (hin : ∀ f ∈ m.files, hasB (namesL s) f.name = true) (T : St × Nat × Int) (hT : sweepR (keepL m.files) s.call = T) (h0 : T.2.2 = 0) :
    Calls Tryz.prog 57 #[.pointer (some ⟨p, 0, none⟩), .agg #[.int .i64 m.stage, .int .i64 m.pass, .slice a n c]] u fun e w' => ∃ v, e = .returned (.tuple #[v, .int .i64 0]) ∧ Ps (DiskA p T.1 :: (M ++ [FlA v m.files])) w w' := by
  obtain ⟨cl1, cl2⟩ := calm_list hd ha
  have hm200 : s.fs.length ≤ 200 := by obtain ⟨_, q⟩ := h.part 0 rfl; exact q.1.m
  have hNl : (namesL s).length ≤ 200 := by unfold namesL; rw [List.length_map]; exact hm200
  have hNs : ∀ x ∈ namesL s, x.size ≤ maxLen := by
    intro x hx
    unfold namesL at hx
    obtain ⟨f, hf, rfl⟩ := List.mem_map.1 hx
    have h1 := hrt f hf
    have h2 := name24 (n := bs f.name) (by simpa [bs] using h1)
    unfold maxLen; omega
  have hKs : ∀ x ∈ keepL m.files, x.size ≤ maxLen := by
    intro x hx
    unfold keepL at hx
    rcases List.mem_append.1 hx with hx | hx
    · simp only [List.mem_cons, List.not_mem_nil, or_false] at hx
      rcases hx with rfl | rfl | rfl <;> decide
    · obtain ⟨f, hf, rfl⟩ := List.mem_map.1 hx
      have := hN f hf
      unfold maxLen; omega
  have hKl : (keepL m.files).length ≤ 1000000 := by simp [keepL]; omega
  have d1 := Qs.blk_new h #[.int .i64 m.stage, .int .i64 m.pass, .slice a n c] 27 rfl
  obtain ⟨V, hV⟩ : ∃ V, u.alloc (.cells #[.int .i64 m.stage, .int .i64 m.pass, .slice a n c] 27) = V := ⟨_, rfl⟩
  rw [hV] at d1
  obtain ⟨z, hzz⟩ : ∃ z, u.heap.size = z := ⟨_, rfl⟩
  rw [hzz] at d1
  have d2 := d1.perm (List.Perm.swap _ _ _)
  have LS := Lib.hid (by
    have h := ps_list d2 (fr_disk p s.call) fun B1 q => plist_c p s V q (by omega)
    rw [cl1, cl2] at h
    exact h)
  have HV := Lib.hid hV
  have HZ := Lib.hid hzz
  obtain ⟨N, hNN⟩ : ∃ N, namesL s = N := ⟨_, rfl⟩
  rw [hNN] at LS hin hNl hNs
  obtain ⟨K, hK⟩ : ∃ K, keepL m.files = K := ⟨_, rfl⟩
  have KC := Lib.hid (fun (tv : Value) (v : World) (x1 : LiesFl v (.slice a n c) m.files) (x2 : Lies v tv N) => keeps22_c m tv N v x1 x2 (by omega) hNs (by omega) hN hin)
  have WC := Lib.hid (fun (tv : Value) (v : World) (x1 : LiesFl v (.slice a n c) m.files) (x2 : Lies v tv N) => where22_c m tv N v x1 x2 (by omega) hNs (by omega) hN hin)
  rw [hK] at KC hT hKs hKl
  have SW := Lib.hid (fun (kv : Value) (M' : List Asn) (v : World) (d : Ps (DiskA p s.call :: M') w v) (k : ∀ (P : List Asn) (wr : World), Ps (P ++ M') w wr → Lies wr kv K) => by
    have h := psweep_c d (show s.calls + 1 ≤ 1000000000 by omega) hKl hKs hrt k
    rw [hT, h0] at h
    exact h)
  have HFL := Lib.hid hfl
  obtain ⟨st, hst⟩ : ∃ k, m.stage = k := ⟨_, rfl⟩
  obtain ⟨ps, hps⟩ : ∃ k, m.pass = k := ⟨_, rfl⟩
  obtain ⟨l, hll⟩ : ∃ k, m.files = k := ⟨_, rfl⟩
  rw [hst, hps, hll] at KC WC
  rw [hll] at HFL
  rw [hst, hps] at HV LS
  rw [hst, hps, hll]
  obtain ⟨S, k2, k3⟩ := T
  obtain ⟨kz, hkz⟩ : ∃ k : Nat, N.length = k := ⟨_, rfl⟩
  rw [hkz] at LS
  simp only at *
  clear h hfl hd ha hc hl hN hrt hin hT h0 cl1 cl2 hm200 hNl hNs hKs hKl d1 hV hzz d2 hst hps hll hNN hK hkz
  go_enter Tryz.func57, Tryz.ntmps57
  go_wp2_with fail
  rw [HZ.out, HV.out]
  refine LS.out.mono ?_; rintro e w2 ⟨la, lc, rfl, d2⟩
  have D2 := Lib.hid (show Ps ([DiskA p s.call, Blk z #[.int .i64 st, .int .i64 ps, .slice a n c] 27, SlA (.slice la kz lc) N] ++ M) w w2 from d2.perm (perm_last M _ _ _))
  obtain ⟨_, hth, _⟩ := D2.out.part 2 rfl
  obtain ⟨b0, b1, b2⟩ := mnv_at (D2.out.blk 1 rfl)
  have K2 := Lib.hid (KC.out (.slice la kz lc) w2 (HFL.out [_, _, _] w2 D2.out) hth)
  clear d2 LS hth KC
  go_wp2_with fail
  refine K2.out.mono ?_; rintro e w3 ⟨kv, rfl, hkv, hkn, g3⟩
  obtain ⟨BK, hBK, hBn⟩ := sl_new hkv hkn
  have D3 := Lib.hid (show Ps (DiskA p s.call :: SlA kv K :: Blk z #[.int .i64 st, .int .i64 ps, .slice a n c] 27 :: SlA (.slice la kz lc) N :: M) w w3 from (Qs.new D2.out g3 (fr_sl kv K) hBK hBn).perm (List.Perm.swap _ _ _))
  obtain ⟨ka, kc, hkve, _⟩ := id hkv
  have S3 := Lib.hid (SW.out kv _ w3 D3.out (fun P wr q => by
    obtain ⟨_, hx⟩ := q.part P.length (Q := SlA kv K) (by simp)
    exact hx.1))
  subst hkve
  clear hkv hkn g3 hBK hBn K2 SW b0 b1 b2 D2
  go_wp2_with fail
  refine S3.out.mono ?_; rintro e w4 ⟨rfl, d4⟩
  have D4 := Lib.hid d4
  obtain ⟨_, hth, _⟩ := D4.out.part 3 rfl
  obtain ⟨b0, b1, b2⟩ := mnv_at (D4.out.blk 2 rfl)
  have W4 := Lib.hid (WC.out (.slice la kz lc) w4 (HFL.out [_, _, _, _] w4 D4.out) hth)
  clear d4 S3 hth WC D3
  go_wp2_with fail
  refine W4.out.mono ?_; rintro e w5 ⟨v, rfl, hlv, hnv, g5⟩
  obtain ⟨BF, hBF, hBFn⟩ := fl_new hlv hnv
  have D5 := Lib.hid (Qs.new D4.out g5 (fr_fl v l) hBF hBFn)
  clear hlv hnv g5 hBF hBFn W4 D4
  go_wp2_with fail
  go_ret2
  refine ⟨v, rfl, ?_⟩
  have e := D5.out.perm (show List.Perm (FlA v l :: DiskA p S :: SlA (.slice ka K.length kc) K :: Blk z #[.int .i64 st, .int .i64 ps, .slice a n c] 27 :: SlA (.slice la kz lc) N :: M) _ from ((((((List.perm_append_singleton _ M).symm.cons _).cons _).cons _).cons _)).trans (perm_tidy M _ _ _ _ _))
  exact e.tail.tail.tail
end Go.Proofs.YtignfbdgpgidpaaGreatDoor
/- The program's Start on a disk that does not fall, where all goes well. -/
namespace Go.Proofs.YtignfbdgpgidpaaGreatDoor
open Go.RowKit FsPlain CrcPlain OctPlain RdPlain MnPlain CmPlain StPlain ScPlain
set_option linter.unusedVariables false
set_option linter.unusedSimpArgs false
set_option maxRecDepth 20000
theorem load_quiet22 (s : St) : Quiet s (loadT s) := by
  unfold loadT
  split
  · exact (quiet_call s).trans (quiet_call _)
  · exact quiet_call s
theorem load_calls22 (s : St) : (loadT s).calls ≤ s.calls + 2 := by
  unfold loadT
  split
  · show s.calls + 1 + 1 ≤ _; omega
  · show s.calls + 1 ≤ _; omega
set_option maxHeartbeats 4000000 in
theorem start22_c {M : List Asn} {w u : World} {p : Nat} {s : St} {m : Mn} {b : Bool} {r : Int} (h : Ps (DiskA p s :: M) w u) (hd : s.down = false) (ha : s.ahead = -1) (hc : s.calls ≤ 800000000) (hz : ∀ x, (loadE s).2 = some x → x.length ≤ 700) (hm : ldIs (loadE s) m b 0) (hr : I64 r) (hf : b = true → fitP m r = true ∧ Tab w ∧ (∀ f ∈ m.files, flK f) ∧ I64 m.stage ∧ I64 m.pass) (hl : m.files.length ≤ 1000) (hN : ∀ f ∈ m.files, f.name.size ≤ 1000) (hrt : ∀ f ∈ s.fs, rightB f.name = true) (hin : ∀ f ∈ m.files, hasB (namesL s) f.name = true) (T : St × Nat × Int) (hT : sweepR (keepL m.files) (loadT s).call = T) (h0 : T.2.2 = 0) (hTd : T.1.down = false) (hTa : T.1.ahead = -1) (hTc : T.1.calls ≤ 1000000000) (hS : ∀ f ∈ m.files, StandF T.1 f) :
    Calls Tryz.prog 23 #[.pointer (some ⟨p, 0, none⟩), .int .i64 r] u fun e w' => ∃ (a : Option Addr) (c : Nat) (t : St), e = .returned (.tuple #[.agg #[.int .i64 m.stage, .int .i64 m.pass, .slice a m.files.length c], .int .i64 0]) ∧ Quiet T.1 t ∧ t.calls ≤ T.1.calls + 2 * (m.files.length : Int) ∧ Ps (DiskA p t :: (M ++ [FlA (.slice a m.files.length c) m.files])) w w' := by
  have hq := load_quiet22 s
  have hcl := load_calls22 s
  obtain ⟨c1, c2⟩ := hq.calm hd ha
  have d1 := Qs.blk_new h mnz 27 rfl
  obtain ⟨V, hV⟩ : ∃ V, u.alloc (.cells mnz 27) = V := ⟨_, rfl⟩
  rw [hV] at d1
  obtain ⟨z, hzz⟩ : ∃ z, u.heap.size = z := ⟨_, rfl⟩
  rw [hzz] at d1
  have FC := Lib.hid (fitting22_c (d1.perm (List.Perm.swap _ _ _)) (by omega) hz hm hr hf)
  have TC := Lib.hid (fun (M' : List Asn) (a : Option Addr) (c : Nat) (v : World) (d : Ps (DiskA p (loadT s) :: M') w v) (k : ∀ (P : List Asn) (wr : World), Ps (P ++ M') w wr → LiesFl wr (.slice a m.files.length c) m.files) => tidy22_c m d k c1 c2 (by omega) hl hN (by rw [hq.fs]; exact hrt) (by unfold namesL; rw [hq.fs]; exact hin) T hT h0)
  have AC := Lib.hid (fun (M' : List Asn) (a : Option Addr) (n c : Nat) (v : World) (d : Ps (DiskA p T.1 :: M') w v) (k : ∀ (P : Asn) (wr : World), Ps (P :: M') w wr → LiesFl wr (.slice a n c) m.files) => allstand22_c m.files d k (by omega) hTd hTa (by omega) hS)
  have HV := Lib.hid (show u.alloc (.cells #[.int .i64 0, .int .i64 0, .slice none 0 0] 27) = V from hV)
  have HZ := Lib.hid hzz
  obtain ⟨st, hst⟩ : ∃ k, m.stage = k := ⟨_, rfl⟩
  obtain ⟨ps, hps⟩ : ∃ k, m.pass = k := ⟨_, rfl⟩
  obtain ⟨l, hll⟩ : ∃ k, m.files = k := ⟨_, rfl⟩
  obtain ⟨n, hn⟩ : ∃ k, l.length = k := ⟨_, rfl⟩
  rw [hst, hps, hll, hn] at FC TC
  rw [hll] at AC
  rw [hst, hps, hll, hn]
  have HN := Lib.hid hn
  rw [hn] at AC
  clear h hd ha hc hz hm hr hf hl hN hrt hin hT h0 hTd hTa hTc hS hq hcl c1 c2 d1 hV hzz hst hps hll hn
  go_enter Tryz.func23, Tryz.ntmps23
  go_wp2_with fail
  rw [HZ.out, HV.out]
  refine FC.out.mono ?_; rintro e w2 ⟨a, c, rfl, d2⟩
  have eb := heap_alloc_new w2 (.cells #[.int .i64 st, .int .i64 ps, .slice a n c] 27)
  have ge := gr22 w2 (.cells #[.int .i64 st, .int .i64 ps, .slice a n c] 27)
  have d3 := Qs.blk_new d2 #[.int .i64 st, .int .i64 ps, .slice a n c] 27 rfl
  obtain ⟨X, hX⟩ : ∃ X, w2.alloc (.cells #[.int .i64 st, .int .i64 ps, .slice a n c] 27) = X := ⟨_, rfl⟩
  obtain ⟨y, hy⟩ : ∃ y, w2.heap.size = y := ⟨_, rfl⟩
  rw [hX, hy] at d3
  have D3 := Lib.hid (show Ps (DiskA p (loadT s) :: (Blk y #[.int .i64 st, .int .i64 ps, .slice a n c] 27 :: Blk z mnz 27 :: (M ++ [FlA (.slice a n c) l]))) w X from d3.perm (List.Perm.swap _ _ _))
  have hk := mnv_at (D3.out.blk 1 rfl)
  have HX := Lib.hid hX
  have HY := Lib.hid hy
  rw [← hX] at hk
  obtain ⟨y0, y1, y2⟩ := hk
  have T3 := Lib.hid (TC.out _ a c X D3.out (fun P wr q => by
    obtain ⟨_, hx⟩ := q.part (P.length + (M.length + 2)) (Q := FlA (.slice a n c) l) (by simp)
    exact fl_lies hx))
  clear d2 d3 hX hy eb ge FC TC
  go_wp2_with fail
  rw [HX.out]
  try rw [HY.out]
  refine T3.out.mono ?_; rintro e w4 ⟨v, rfl, d4⟩
  have D4 := Lib.hid d4
  obtain ⟨_, hv⟩ := d4.part (M.length + 4) (Q := FlA v l) (by simp)
  obtain ⟨va, vc, rfl, _⟩ := fl_lies hv
  have A4 := Lib.hid (AC.out _ va l.length vc w4 d4 (fun P wr q => by
    obtain ⟨_, hx⟩ := q.part (M.length + 4) (Q := FlA (.slice va l.length vc) l) (by simp)
    exact fl_lies hx))
  rw [HN.out] at A4 D4
  rw [HN.out]
  clear d4 hv T3 AC D3 y0 y1 y2
  go_wp2_with fail
  refine A4.out.mono ?_; rintro e w5 ⟨rfl, t, hq, hcl, d5⟩
  have D5 := Lib.hid d5
  obtain ⟨y0, y1, y2⟩ := mnv_at (d5.blk 1 rfl)
  obtain ⟨k0, k1, k2, k3, k4, k5⟩ := mnz_at (d5.blk 2 rfl)
  have F := Lib.hid (d5.set3 2 rfl rfl (.int .i64 st) (.int .i64 ps) (.slice a n c))
  have HQ := Lib.hid (And.intro hq hcl)
  clear d5 A4 D4 hq hcl
  go_wp2_with fail
  refine bodyPost_ret (by exact mn_results2 rfl rfl rfl (F.out.blk 2 rfl)) rfl ⟨a, c, t, rfl, HQ.out.1, HQ.out.2, ?_⟩
  exact (F.out.perm (perm_start M (DiskA p t) _ _ _ _)).tail.tail.tail
end Go.Proofs.YtignfbdgpgidpaaGreatDoor
