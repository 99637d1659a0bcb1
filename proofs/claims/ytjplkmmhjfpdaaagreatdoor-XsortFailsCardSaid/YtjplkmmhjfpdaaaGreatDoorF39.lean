/- In one text: MgProg, XsMerge. -/
import Derived.Test.YtjplkmmhjfpdaaaGreatDoorF38
import Derived.Test.YtjplkmmhjfpdaaaGreatDoorF18
import Derived.Test.YtjplkmmhjfpdaaaGreatDoorF32
/- The program's Merge. -/
namespace Go.Proofs.YtjplkmmhjfpdaaaGreatDoor
open Go.RowKit FsPlain CrcPlain OctPlain FramePlain RecPlain RdPlain RnPlain LoPlain WrPlain
set_option linter.unusedVariables false
set_option linter.unusedSimpArgs false
set_option maxRecDepth 20000
theorem merge_results {fn : Func} (hfn : fn.results = #[.cell 12 37, .tmp 13]) {tmps : Array Value} {o : Nat} {k c er : Int} {w : World} (h12 : tmps.getD 12 undef = .pointer (some ⟨o, 0, none⟩)) (h13 : tmps.getD 13 undef = .int .i64 er) (c0 : w.cell? ⟨o, 0, none⟩ = some (.int .i64 k)) (c1 : w.cell? ⟨o, 1, none⟩ = some (.int .u32 c)) :
    (results fn tmps).run Tryz.prog w = .ok (.tuple #[.agg #[.int .i64 k, .int .u32 c], .int .i64 er]) w := by
  rw [results_cell_tmp hfn, h12, h13]
  simp [go_sem, c0, c1]
theorem perm_start (r x d b : Asn) (M : List Asn) : (r :: x :: d :: b :: M).Perm (d :: b :: x :: r :: M) := by
  have h1 : (r :: x :: d :: b :: M).Perm (x :: r :: d :: b :: M) := List.Perm.swap _ _ _
  have h2 : ([x, r] ++ ([d, b] ++ M)).Perm ([d, b] ++ ([x, r] ++ M)) := by
    rw [← List.append_assoc, ← List.append_assoc]
    exact List.perm_append_comm.append_right _
  exact h1.trans h2
theorem frs_perm {L M : List Asn} (p : L.Perm M) : Frs L → Frs M := by
  induction p with
  | nil => exact id
  | cons x _ ih => exact fun h => ⟨h.1, ih h.2⟩
  | swap x y l => exact fun h => ⟨h.2.1, h.1, h.2.2⟩
  | trans _ _ h1 h2 => exact fun h => h2 (h1 h)
theorem drop_db {d b a : Asn} {M : List Asn} {w : World} {B : Nat → Prop} (h : stars ([d, b] ++ (a :: M)) w B) : ∃ B', stars ([d, b] ++ M) w B' ∧ Nx B w B' w := drop_in (R := []) (K := [d, b]) h
theorem mid_step {R K M : List Asn} {a p Q : Asn} {w w' : World} {B : Nat → Prop} (hF : Frs (R ++ (K ++ (a :: p :: M)))) (h : stars (R ++ (K ++ (a :: p :: M))) w B) (k : ∀ B1, p w B1 → ∃ B', Q w' B' ∧ Nx B1 w B' w') : ∃ B', stars (R ++ (K ++ (a :: Q :: M))) w' B' ∧ Nx B w B' w' := by
  have hF2 : Frs (a :: p :: (R ++ (K ++ M))) := frs_perm (perm_in2 R K M a p) hF
  obtain ⟨B1, k1, n1⟩ := step_at (L := a :: p :: (R ++ (K ++ M))) (Q := Q) 1 rfl hF2 (stars_perm (perm_in2 R K M a p) h) k
  exact ⟨B1, stars_perm (perm_in2 R K M a Q).symm k1, n1⟩
theorem perm_in3 (R K M : List Asn) (a b c : Asn) : (R ++ (K ++ (a :: b :: c :: M))).Perm (a :: b :: c :: (R ++ (K ++ M))) :=
  (perm_in2 R K (c :: M) a b).trans (((perm_in R K M c).cons b).cons a)
theorem info_set {R K M : List Asn} {a p : Asn} {o : Nat} {k c : Int} {w : World} {B : Nat → Prop} (hF : Frs (R ++ (K ++ (a :: p :: Blk o #[.int .i64 0, .int .u32 0] 37 :: M)))) (h : stars (R ++ (K ++ (a :: p :: Blk o #[.int .i64 0, .int .u32 0] 37 :: M))) w B) : ∃ B', stars (R ++ (K ++ (a :: p :: Blk o #[.int .i64 k, .int .u32 c] 37 :: M))) ((w.setCell ⟨o, 0, none⟩ (.int .i64 k)).setCell ⟨o, 1, none⟩ (.int .u32 c)) B' ∧ Nx B w B' ((w.setCell ⟨o, 0, none⟩ (.int .i64 k)).setCell ⟨o, 1, none⟩ (.int .u32 c)) := by
  have hF2 : Frs (a :: p :: Blk o #[.int .i64 0, .int .u32 0] 37 :: (R ++ (K ++ M))) := frs_perm (perm_in3 R K M a p _) hF
  obtain ⟨B1, k1, n1⟩ := step_at (L := a :: p :: Blk o #[.int .i64 0, .int .u32 0] 37 :: (R ++ (K ++ M))) (Q := Blk o #[.int .i64 k, .int .u32 c] 37) 2 rfl hF2 (stars_perm (perm_in3 R K M a p _) h) fun B1 q => by
    obtain ⟨B2, q2, m2⟩ := blk_next (i := 0) q (.int .i64 k)
    obtain ⟨B3, q3, m3⟩ := blk_next (i := 1) q2 (.int .u32 c)
    exact ⟨B3, q3, m2.trans m3⟩
  exact ⟨B1, stars_perm (perm_in3 R K M a p _).symm k1, n1⟩
theorem info_set0 {d b : Asn} {M : List Asn} {o : Nat} {k c : Int} {w : World} {B : Nat → Prop} (hd : Fr d) (hb : Fr b) (hM : Frs M) (h : stars ([d, b] ++ (Blk o #[.int .i64 0, .int .u32 0] 37 :: M)) w B) : ∃ B', stars ([d, b] ++ (Blk o #[.int .i64 k, .int .u32 c] 37 :: M)) ((w.setCell ⟨o, 0, none⟩ (.int .i64 k)).setCell ⟨o, 1, none⟩ (.int .u32 c)) B' ∧ Nx B w B' ((w.setCell ⟨o, 0, none⟩ (.int .i64 k)).setCell ⟨o, 1, none⟩ (.int .u32 c)) ∧ ((w.setCell ⟨o, 0, none⟩ (.int .i64 k)).setCell ⟨o, 1, none⟩ (.int .u32 c)).cell? ⟨o, 0, none⟩ = some (.int .i64 k) ∧ ((w.setCell ⟨o, 0, none⟩ (.int .i64 k)).setCell ⟨o, 1, none⟩ (.int .u32 c)).cell? ⟨o, 1, none⟩ = some (.int .u32 c) := by
  obtain ⟨B1, k1, n1⟩ := step_at (L := [d, b] ++ (Blk o #[.int .i64 0, .int .u32 0] 37 :: M)) (Q := Blk o #[.int .i64 k, .int .u32 c] 37) 2 rfl ⟨hd, hb, fr_blk _ _ _, hM⟩ h fun B1 q => by
    obtain ⟨B2, q2, m2⟩ := blk_next (i := 0) q (.int .i64 k)
    obtain ⟨B3, q3, m3⟩ := blk_next (i := 1) q2 (.int .u32 c)
    exact ⟨B3, q3, m2.trans m3⟩
  obtain ⟨_, hb, _⟩ := part_at (L := [d, b] ++ (Blk o #[.int .i64 k, .int .u32 c] 37 :: M)) 2 rfl k1
  exact ⟨B1, k1, n1, by rw [cells_at hb.1]; rfl, by rw [cells_at hb.1]; rfl⟩
theorem rowE_liesV {E : TypeId} {v : Value} {n : Nat} {xs : List Value} {w : World} {B : Nat → Prop} (h : RowE E 1 v n xs w B) (hn : xs.length = n) : LiesV w v xs := by
  have hc := fun g hg => h.1.cells (g := g) hg
  rcases h.1.2 with ⟨rfl, h0⟩ | ⟨g, cap, cur, rfl, _, hb, h1, h2, _⟩
  · have : xs = [] := List.eq_nil_of_length_eq_zero (by omega)
    subst this
    exact ⟨none, 0, rfl, Nat.le_refl _, .inl rfl⟩
  · refine ⟨_, cap, by rw [hn], by rw [hn]; exact h1, .inr ⟨g, 0, rfl, lt_of_block hb, fun j x hj => ?_⟩⟩
    have := hc g rfl j x hj
    rw [add_zero g j] at this
    rw [Nat.zero_add]
    exact this
theorem infoSrc : (Tryz.prog.info? 157).map (fun i => (i.zero, i.size, i.bytes)) = some (some (.agg #[.pointer none]), 1, 8) := by kernel_rfl
def dropD (x : Nat) : Deferred := { target := .fn (.func 116) #[], args := #[.pointer (some ⟨x, 0, none⟩)] }
def zInfo : Array Value := #[.int .i64 0, .int .u32 0]
theorem mg_leave {fn : Func} (hfn : fn.results = #[.cell 12 37, .tmp 13]) {tmps : Array Value} {o : Nat} {k c er : Int} (h12 : tmps.getD 12 undef = .pointer (some ⟨o, 0, none⟩)) (h13 : tmps.getD 13 undef = .int .i64 er) {D P xw : Nat} {s0 : St} {b0 : Bu} {F : List (ByteArray × ByteArray)} {out : ByteArray} {size : Int} {u : Bool} {s : St} {b : Bu} {wx : Ws} {rs : List (Nat × Rs)} {xs : List Nat} (hx : rs.map (·.1) = xs) (hway : Way s0 b0 F out size u s b wx (rs.map (·.2)) k c er) {X : Asn} (hX : Fr X) {M : List Asn} (hM : Frs M) {w0 w : World} {B0 B : Nat → Prop} (h : stars (rdsA D P rs ++ ([DiskA D s, BuA P b] ++ (WrA xw D P wx :: X :: Blk o #[.int .i64 k, .int .u32 c] 37 :: M))) w B) (nx : Nx B0 w0 B w) :
    Leaves Tryz.prog fn tmps (MergeGot D P s0 b0 F out size u M w0 B0) ((xs.map closeD).reverse ++ [dropD xw]) .returning w := by
  have e : (xs.map closeD).reverse = ((rs.take rs.length).map fun r => closeD r.1).reverse := by rw [List.take_length, ← hx, List.map_map]; rfl
  have FX : Frs (X :: Blk o #[.int .i64 k, .int .u32 c] 37 :: M) := ⟨hX, fr_blk _ _ _, hM⟩
  rw [e]
  refine leaves_rds (M := WrA xw D P wx :: X :: Blk o #[.int .i64 k, .int .u32 c] 37 :: M) ⟨fr_wr _ _ _ _, FX⟩ rs.length rs b 0 w B (Nat.le_refl _) (fun r hr => hway.inv r.2 (List.mem_map.2 ⟨r, hr, rfl⟩)) (left_zero hway.bok) (by rw [List.take_length]; have := hway.now; omega) h nx (fun rs' b' w' B' hL hst hnx => ?_)
  rw [List.take_length, Nat.zero_add] at hL
  refine leaves_cons (f := 116) (args := #[.pointer (some ⟨xw, 0, none⟩)]) (by simp [settle]) (by simp [go_sem]) ?_
  refine (mdrop_d .returning FX hst).mono ?_
  rintro e u' w2 ⟨rfl, rfl, B2, h2, n2⟩
  obtain ⟨B3, h3, n3⟩ := forget17 h2
  obtain ⟨B4, h4, n4⟩ := drop_db h3
  obtain ⟨B5, h5, n5⟩ := drop_db h4
  obtain ⟨Ba, hb, _⟩ := part_at 2 rfl (show stars ([DiskA D _, BuA P _] ++ (Blk o #[.int .i64 k, .int .u32 c] 37 :: M)) w2 B5 from h5)
  have c0 : w2.cell? ⟨o, 0, none⟩ = some (.int .i64 k) := by rw [cells_at hb.1]; rfl
  have c1 : w2.cell? ⟨o, 1, none⟩ = some (.int .u32 c) := by rw [cells_at hb.1]; rfl
  obtain ⟨B6, h6, n6⟩ := drop_db h5
  exact ⟨_, merge_results hfn h12 h13 c0 c1, _, _, k, c, er, rfl, hway.fin b' hL, B6, h6, ((((hnx.trans n2).trans n3).trans n4).trans n5).trans n6⟩
def OpAt (D P xw o : Nat) (s0 : St) (b0 : Bu) (F : List (ByteArray × ByteArray)) (out : ByteArray) (size : Int) (wx : Ws) (m : Nat) (M : List Asn) (w : World) (B : Nat → Prop) (k : Nat) (sv jv : Value) (ds : List Deferred) (wr : World) : Prop :=
  ∃ j s b rs xs sa sc B', j + k = m ∧ jv = .int .i64 (j : Int) ∧ ds = (xs.map closeD).reverse ++ [dropD xw] ∧ rs.map (·.1) = xs ∧ xs.length = j ∧ MgS s0 b0 F out size s b wx (rs.map (·.2)) (List.replicate xs.length ([], false)) [] ∧ sv = .slice sa j sc ∧ stars (rdsA D P rs ++ ([DiskA D s, BuA P b] ++ (WrA xw D P wx :: RowE 157 1 sv j (ptrs17 xs) :: Blk o zInfo 37 :: M))) wr B' ∧ Nx B w B' wr
set_option maxHeartbeats 16000000 in
theorem merge17_c {D P : Nat} {s : St} {b : Bu} {F : List (ByteArray × ByteArray)} {out : ByteArray} {size : Int} {v : Value} (hz : I64 size) (u : Bool) (hF : ∀ p ∈ F, HasD s p.1.data.toList p.2 ∧ p.2.size ≤ 5000 ∧ rightB p.1.data.toList = true ∧ p.1.size ≤ 24 ∧ p.1 ≠ out) (hl : F.length ≤ 64) (hsum : (F.map fun p => p.2.size).sum ≤ 90000) (ho : out.size ≤ 24) (hor : rightB out.data.toList = true) (hon : s.get out.data.toList = none) (hc : s.calls ≤ 10000000000) {w : World} {B : Nat → Prop} {M : List Asn} (hM : Frs M) (hv : ∀ (wr : World) (B' : Nat → Prop), stars M wr B' → Lies wr v (F.map (·.1))) (h : stars ([DiskA D s, BuA P b] ++ M) w B) :
    Calls Tryz.prog 99 #[.pointer (some ⟨D, 0, none⟩), .pointer (some ⟨P, 0, none⟩), v, .string out, .int .i64 size, .bool u] w (MergeGot D P s b F out size u M w B) := by
  have hsok : s.ok := by
    obtain ⟨_, hd, _⟩ := part_at 0 rfl h
    exact hd.1
  have hbok : b.ok := by
    obtain ⟨_, hb, _⟩ := part_at 1 rfl h
    exact hb.1
  obtain ⟨m, hm⟩ : ∃ m, F.length = m := ⟨_, rfl⟩
  have sh : ∃ a c, v = .slice a m c := by
    obtain ⟨_, B2, _, h2, _⟩ := stars_app.1 h
    obtain ⟨a, c, e, _⟩ := hv w B2 h2
    rw [List.length_map, hm] at e
    exact ⟨a, c, e⟩
  obtain ⟨va, vc, rfl⟩ := sh
  obtain ⟨BW, kW, nW⟩ : ∃ B', stars ([DiskA D s, BuA P b] ++ (Blk w.heap.size zInfo 37 :: M)) (w.alloc (.cells #[.int .i64 0, .int .u32 0] 37)) B' ∧ Nx B w B' (w.alloc (.cells #[.int .i64 0, .int .u32 0] 37)) := by
    obtain ⟨B3, k3, n3⟩ := part_new (P := Blk w.heap.size zInfo 37) (B' := fun b => b = w.heap.size) (L := [DiskA D s, BuA P b] ++ M) (frs_app (frs_db17 D P s b) hM) h (gral17 w (.cells #[.int .i64 0, .int .u32 0] 37)) ⟨heap_alloc_new w _, fun _ => Iff.rfl⟩ (fun b hb => by rw [hb]; exact Nat.le_refl _)
    exact ⟨B3, stars_perm (perm_in [] [DiskA D s, BuA P b] M _).symm k3, n3⟩
  have FM0 : Frs (Blk w.heap.size zInfo 37 :: M) := ⟨fr_blk _ _ _, hM⟩
  have CR := Lib.hid (wr_create (nm := out) hz ho hor (by omega) FM0 kW)
  have MC := Lib.hid (fun (h0 : (createM s b out size).2.2 ≠ 0) => mg_create (F := F) u hsok hbok ho hor hon h0)
  have MS := Lib.hid (fun (hzb : sizeB size = true) (h0 : (createM s b out size).2.2 = 0) => mgS_start (F := F) hsok hbok ho hor hzb hon h0)
  have ZB := Lib.hid (show (createM s b out size).2.2 = 0 → sizeB size = true from fun h0 => by
    cases hzb : sizeB size
    · have e : createM s b out size = (s, b, 1) := by unfold createM; rw [if_pos (by simp [hzb])]
      rw [e] at h0; exact absurd h0 (show ¬ (1 : Int) = 0 by decide)
    · rfl)
  obtain ⟨R, hR⟩ : ∃ R, createM s b out size = R := ⟨_, rfl⟩
  rw [hR] at CR MC MS ZB
  have HV := Lib.hid hv
  have HF := Lib.hid (show FilesOk s F out from hF)
  have HL := Lib.hid hl
  have HU := Lib.hid hsum
  have HC := Lib.hid hc
  have HM := Lib.hid hM
  have HZ := Lib.hid hz
  have HMM := Lib.hid hm
  have NW := Lib.hid nW
  have t64 : decide ((64 : Int) < (m : Int)) = false := by simp; omega
  have hm64 : (m : Int) ≤ 64 := by omega
  clear hv hF hl hsum hc hM hz hm h hsok hbok ho hor hon kW nW hR FM0
  go_enter_defers Tryz.func99, Tryz.ntmps99
  go_wp2_with fail
  refine CR.out.mono ?_
  rintro e w1 (⟨h0, xw, rfl, B1, k1, n1⟩ | ⟨h0, rfl, B1, k1, n1⟩)
  · have START := Lib.hid (show OpAt D P xw w.heap.size s b F out size (newWs out size) m M w B m (.slice none 0 0) (.int .i64 0) [dropD xw] w1 from by
      obtain ⟨B2, k2, n2⟩ := part_new (P := RowE 157 1 (.slice none 0 0) 0 (ptrs17 [])) (B' := fun _ => False) (L := [WrA xw D P (newWs out size), DiskA D R.1, BuA P R.2.1] ++ (Blk w.heap.size zInfo 37 :: M)) ⟨fr_wr _ _ _ _, fr_disk _ _, fr_bu _ _, fr_blk _ _ _, HM.out⟩ k1 (Gr.refl _) (rowE_nil _ _ w1) (fun b hb => hb.elim)
      refine ⟨0, R.1, R.2.1, [], [], none, 0, B2, Nat.zero_add _, rfl, rfl, rfl, rfl, MS.out (ZB.out h0) h0, rfl, ?_, (NW.out.trans n1).trans n2⟩
      refine stars_perm ?_ k2
      show (RowE 157 1 (.slice none 0 0) 0 (ptrs17 []) :: WrA xw D P (newWs out size) :: DiskA D R.1 :: BuA P R.2.1 :: Blk w.heap.size zInfo 37 :: M).Perm (DiskA D R.1 :: BuA P R.2.1 :: WrA xw D P (newWs out size) :: RowE 157 1 (.slice none 0 0) 0 (ptrs17 []) :: Blk w.heap.size zInfo 37 :: M)
      exact perm_start _ _ _ _ _)
    clear k1 n1 CR MC MS ZB NW h0
    go_wp2_with fail
    refine wp_loop_ghost_k (fun k a wr => ∃ sv jv ds u6 u7 u8 u9 u10 u11 u13 u15 u17 u18 u19 u20 u21 u22 u23 u24 u25 u26 u27 u28 u29 u30 u31 u32 u33 u34 u35 u36 u37 u38 u42 u43 u44 u45 u46 u47 u48 u49 u50 u51 u52 u53 u54 u55 u56 u57 u58 u59 u60 u61 u62 u63 u64 u65 u66 u67 u68 u69 u70 u71 u72 u73 u74 u75, OpAt D P xw w.heap.size s b F out size (newWs out size) m M w B k sv jv ds wr ∧ a = ⟨#[.pointer (some ⟨D, 0, none⟩), .pointer (some ⟨P, 0, none⟩), .slice va m vc, .string out, .int .i64 size, .bool u, u6, u7, u8, u9, u10, u11, .pointer (some ⟨w.heap.size, 0, none⟩), u13, .pointer (some ⟨xw, 0, none⟩), u15, sv, u17, u18, u19, u20, u21, u22, u23, u24, u25, u26, u27, u28, u29, u30, u31, u32, u33, u34, u35, u36, u37, u38, .slice va m vc, .int .i64 (m : Int), jv, u42, u43, u44, u45, u46, u47, u48, u49, u50, u51, u52, u53, u54, u55, u56, u57, u58, u59, u60, u61, u62, u63, u64, u65, u66, u67, u68, u69, u70, u71, u72, u73, u74, u75], ds⟩) m ?_ ?_
    · (repeat apply Exists.intro)
      refine ⟨?_, rfl⟩
      exact START.out
    · clear START
      rintro gk _ wr ⟨sv, jv, ds, u6, u7, u8, u9, u10, u11, u13, u15, u17, u18, u19, u20, u21, u22, u23, u24, u25, u26, u27, u28, u29, u30, u31, u32, u33, u34, u35, u36, u37, u38, u42, u43, u44, u45, u46, u47, u48, u49, u50, u51, u52, u53, u54, u55, u56, u57, u58, u59, u60, u61, u62, u63, u64, u65, u66, u67, u68, u69, u70, u71, u72, u73, u74, u75, hrel, rfl⟩
      intro _ _ _ _
      obtain ⟨j, s1, b1, rs, xs, sa, sc, B', hjk, rfl, rfl, hx, hxl, hS, rfl, hst, nx⟩ := hrel
      have hrl : (rs.map (·.2)).length = j := by rw [List.length_map, ← hxl, ← hx, List.length_map]
      have FM : Frs (WrA xw D P (newWs out size) :: RowE 157 1 (.slice sa j sc) j (ptrs17 xs) :: Blk w.heap.size zInfo 37 :: M) := ⟨fr_wr _ _ _ _, fr_rowE _ _ _ _ _, fr_blk _ _ _, HM.out⟩
      have hpl : (ptrs17 xs).length = j := by unfold ptrs17; rw [List.length_map, hxl]
      have hcs := hS.calls17 HF.out HL.out (Nat.zero_le _)
      by_cases hlt : j < m
      · obtain ⟨⟨nm, C⟩, hi⟩ : ∃ p, F[j]? = some p := ⟨F[j]'(by rw [HMM.out]; exact hlt), List.getElem?_eq_getElem _⟩
        have hp := HF.out _ (List.mem_of_getElem? hi)
        have CO := rds_open (nm := nm) HZ.out hS.wr.ok.s hp.2.2.2.1 hp.2.2.1 (by have := HC.out; show s1.calls ≤ _; omega) FM hst
        have KO := hS.open HF.out (nm := nm) (C := C) (by rw [hrl]; exact hi)
        have OO := Lib.hid (fun (h0 : (openN s1 b1 nm size).2.2.1 ≠ 0) (hN : NoOpen s1 b1 C size (openN s1 b1 nm size)) => hS.out_open HF.out HL.out (nm := nm) (C := C) (by rw [hrl]; exact hi) h0 hN)
        obtain ⟨O, hO⟩ : ∃ O, openN s1 b1 nm size = O := ⟨_, rfl⟩
        rw [hO] at CO KO OO
        have COH := Lib.hid CO
        obtain ⟨bq, off, hva, hbq, hcell⟩ : ∃ b off, va = some ⟨b, off, none⟩ ∧ b < wr.heap.size ∧ wr.cell? ⟨b, off + j, none⟩ = some (.string nm) := by
          obtain ⟨B2, h2⟩ := rest17 hst
          obtain ⟨B3, h3⟩ := tail17 h2
          obtain ⟨B4, h4⟩ := tail17 h3
          obtain ⟨B5, h5⟩ := tail17 h4
          exact lies_cell17 (HV.out wr B5 h5) (by rw [List.getElem?_map, hi]; rfl)
        subst hva
        have hlI : (j : Int) < (m : Int) := by omega
        have REL := Lib.hid (show rs.map (·.1) = xs ∧ xs.length = j ∧ j + gk = m ∧ (ptrs17 xs).length = j ∧ Nx B w B' wr from ⟨hx, hxl, hjk, hpl, nx⟩)
        clear hx hxl hjk hpl nx hst CO hS hi hp hrl hO FM hcs
        rcases KO with ⟨k1, k2⟩ | ⟨k1, k2⟩
        · have HS := Lib.hid k2
          have HK1 := Lib.hid k1
          clear k1 k2 OO
          obtain ⟨i0, hi0⟩ : ∃ i, Tryz.prog.info? 157 = some i ∧ (i.zero, i.size, i.bytes) = (some (.agg #[.pointer none]), 1, 8) := by
            have := infoSrc
            rw [Option.map_eq_some_iff] at this
            obtain ⟨i, h1, h2⟩ := this
            exact ⟨i, h1, h2⟩
          obtain ⟨hi', hz'⟩ := hi0
          simp only [Prod.mk.injEq] at hz'
          obtain ⟨hz0, hz1, hz2⟩ := hz'
          go_wp2_with fail
          refine COH.out.mono ?_
          rintro e w2 (⟨_, x, rfl, B2, h2, n2⟩ | ⟨h0, _⟩)
          · have OWN : w2.ownsRow 0 157 1 (.slice sa j sc) j (ptrs17 xs) := by
              obtain ⟨Ba, ha⟩ := rest17 h2
              obtain ⟨_, hb, _⟩ := part_at 1 rfl ha
              exact hb.1
            have OW := Lib.hid OWN
            have H2 := Lib.hid h2
            have N2 := Lib.hid (REL.out.2.2.2.2.trans n2)
            clear h2 n2 COH OWN hcell
            go_wp2_with (first
              | (at_builtin; refine wpList_append_own_at _ rfl _ _ 155 rfl 0 157 i0 (.agg #[.pointer none]) 1 8 Tryz.underlying155 hi' hz0 hz1 hz2 rfl (by decide) (.slice sa j sc) j (ptrs17 xs) rfl (OW.out.alloc _) ⟨w2.heap.size, 0, none⟩ 1 1 [.pointer (some ⟨x, 0, none⟩)] rfl rfl (cell_one_new _ _ _) (by simp [Value.oneCell']) (by unfold maxLen; omega) (by omega) (Nat.zero_le _) ?_)
              | fail)
            intro v5 w5 ho5 hg5 _ ha5
            have FX : Frs (rdsA D P (rs ++ [(x, newRs nm size O.2.2.2)]) ++ ([DiskA D O.1, BuA P O.2.1] ++ (WrA xw D P (newWs out size) :: RowE 157 1 (.slice sa j sc) j (ptrs17 xs) :: Blk w.heap.size zInfo 37 :: M))) := frs_all17 D P _ _ _ ⟨fr_wr _ _ _ _, fr_rowE _ _ _ _ _, fr_blk _ _ _, HM.out⟩
            obtain ⟨B5, h5, n5⟩ := mid_step (Q := RowE 157 1 v5 (j + 1) (ptrs17 xs ++ [.pointer (some ⟨x, 0, none⟩)])) FX H2.out (fun B1 h1 => rowE_next h1 (gral17 w2 (.cells #[.pointer (some ⟨x, 0, none⟩)] 157)) ho5 hg5 (by rw [World.size_alloc]; exact ha5))
            have hsh : ∃ s5 c5, v5 = .slice s5 (j + 1) c5 := by
              rcases ho5.2 with ⟨e1, e2⟩ | ⟨g, cap, cur, e1, _⟩
              · exact absurd e2 (by omega)
              · exact ⟨_, cap, e1⟩
            obtain ⟨s5, c5, rfl⟩ := hsh
            have H5 := Lib.hid h5
            have N5 := Lib.hid (N2.out.trans n5)
            clear ho5 hg5 ha5 h5 n5 H2 OW FX N2
            go_wp2_with fail
            go_roundg (gk - 1)
            case measure => have := REL.out.2.2.1; omega
            case rel =>
              have hj := REL.out.2.1
              refine ⟨j + 1, O.1, O.2.1, rs ++ [(x, newRs nm size O.2.2.2)], xs ++ [x], s5, c5, B5, by have := REL.out.2.2.1; omega, rfl, ?_, by rw [List.map_append, REL.out.1]; rfl, by rw [List.length_append, hj]; rfl, ?_, rfl, ?_, N5.out⟩
              · rw [List.map_append, List.reverse_append]; rfl
              · have := HS.out
                rw [List.map_append, List.length_append, List.length_singleton, List.replicate_succ']
                exact this
              · have := H5.out
                unfold ptrs17 at this ⊢
                rw [List.map_append]
                exact this
          · exact absurd HK1.out h0
        · have KB := Lib.hid (OO.out k1 k2)
          have he : (O.2.2.1 != 0) = true := by simpa using k1
          have HK1 := Lib.hid k1
          clear k1 k2 OO
          go_wp2_with fail
          refine COH.out.mono ?_
          rintro e w2 (⟨h0, _⟩ | ⟨_, rfl, B2, h2, n2⟩)
          · exact absurd h0 HK1.out
          · obtain ⟨Ba, ha⟩ := rest17 h2
            obtain ⟨_, hb, _⟩ := part_at 2 rfl ha
            have c0 : w2.cell? ⟨w.heap.size, 0, none⟩ = some (.int .i64 0) := by rw [cells_at hb.1]; rfl
            have c1 : w2.cell? ⟨w.heap.size, 1, none⟩ = some (.int .u32 0) := by rw [cells_at hb.1]; rfl
            have f0 := cells_free hb.1 0
            have f1 := cells_free hb.1 1
            have hlb := lt_of_block hb.1
            have T3 := Lib.hid (info_set (k := 0) (c := 0) (frs_all17 D P rs O.1 O.2.1 (M := WrA xw D P (newWs out size) :: RowE 157 1 (.slice sa j sc) j (ptrs17 xs) :: Blk w.heap.size zInfo 37 :: M) ⟨fr_wr _ _ _ _, fr_rowE _ _ _ _ _, fr_blk _ _ _, HM.out⟩) h2)
            have N2 := Lib.hid (REL.out.2.2.2.2.trans n2)
            clear h2 n2 ha hb COH hcell
            go_wp2_with fail
            obtain ⟨B4, h4, n4⟩ := T3.out
            exact mg_leave rfl rfl rfl REL.out.1 (KB.out.way u) (fr_rowE _ _ _ _ _) HM.out h4 (N2.out.trans n4)
      · have hjm : j = m := by omega
        subst hjm
        have LV := fun (wr : World) (B' : Nat → Prop) (k : stars (RowE 157 1 (.slice sa j sc) j (ptrs17 xs) :: Blk w.heap.size zInfo 37 :: M) wr B') => (by
          obtain ⟨_, hr, _⟩ := part_at 0 rfl k
          exact rowE_liesV hr hpl : LiesV wr (.slice sa j sc) (ptrs17 xs))
        have CP := Lib.hid (pour17_c u hx HF.out HL.out HU.out HC.out hS (M := RowE 157 1 (.slice sa j sc) j (ptrs17 xs) :: Blk w.heap.size zInfo 37 :: M) ⟨fr_rowE _ _ _ _ _, fr_blk _ _ _, HM.out⟩ LV hst)
        have REL := Lib.hid (show rs.map (·.1) = xs ∧ xs.length = j ∧ Nx B w B' wr from ⟨hx, hxl, nx⟩)
        clear hx hxl hjk hpl nx hst hS hrl FM hcs LV
        go_wp2_with fail
        refine CP.out.mono ?_
        rintro e w2 (⟨s2, b2, wx2, rs2, G, T, H, done, B2, rfl, hx2, hS2, hT2, hb2, h2, n2⟩ | ⟨er, s2, b2, wx2, rs2, B2, rfl, hx2, hO2, h2, n2⟩)
        · have hcs := hS2.calls17 HF.out HL.out hT2.few
          have hcg := hS2.src.few17 HU.out HL.out
          have hfw := hT2.few
          have hal : wx2.all.length ≤ 100000 := by rw [hS2.wr.all]; omega
          have hyl : (rs2.map (·.2)).length = F.length := by rw [List.length_map, HMM.out, ← REL.out.2.1, ← hx2, List.length_map]
          have CC := mclose_c (x := xw) hS2.wr.ok hal (by have := HC.out; omega) (M := RowE 157 1 (.slice sa j sc) j (ptrs17 xs) :: Blk w.heap.size zInfo 37 :: M) ⟨fr_rowE _ _ _ _ _, fr_blk _ _ _, HM.out⟩ h2
          have KC := fun X (hX : closeM ⟨s2, b2, wx2⟩ = X) => hS2.close17 HF.out HL.out HU.out hyl hT2 hb2 hX
          obtain ⟨⟨M5, e5⟩, h5⟩ : ∃ X, closeM ⟨s2, b2, wx2⟩ = X := ⟨_, rfl⟩
          rw [h5] at CC
          obtain ⟨kk, cc, hcv, hway⟩ := KC _ h5
          simp only at hcv hway CC
          rw [hcv] at CC
          have CCH := Lib.hid CC
          have REL2 := Lib.hid (show rs2.map (·.1) = xs ∧ Way s b F out size u M5.s M5.b M5.x (rs2.map (·.2)) kk cc e5 ∧ Nx B w B2 w2 from ⟨hx2, hway, REL.out.2.2.trans n2⟩)
          clear hcs hcg hfw hal hyl CC KC h5 hcv hway hx2 hS2 hT2 hb2 h2 n2 CP
          go_wp2_with fail
          refine CCH.out.mono ?_; rintro e w3 ⟨rfl, B3, h3, n3⟩
          obtain ⟨Ba, ha⟩ := rest17 h3
          obtain ⟨_, hb, _⟩ := part_at 2 rfl ha
          have c0 : w3.cell? ⟨w.heap.size, 0, none⟩ = some (.int .i64 0) := by rw [cells_at hb.1]; rfl
          have c1 : w3.cell? ⟨w.heap.size, 1, none⟩ = some (.int .u32 0) := by rw [cells_at hb.1]; rfl
          have f0 := cells_free hb.1 0
          have f1 := cells_free hb.1 1
          have hlb := lt_of_block hb.1
          have T3 := Lib.hid (info_set (k := kk) (c := cc) (frs_all17 D P rs2 M5.s M5.b (M := WrA xw D P M5.x :: RowE 157 1 (.slice sa j sc) j (ptrs17 xs) :: Blk w.heap.size zInfo 37 :: M) ⟨fr_wr _ _ _ _, fr_rowE _ _ _ _ _, fr_blk _ _ _, HM.out⟩) h3)
          have N3 := Lib.hid (REL2.out.2.2.trans n3)
          clear h3 n3 ha hb CCH
          go_wp2_with fail
          obtain ⟨B4, h4, n4⟩ := T3.out
          exact mg_leave rfl rfl rfl REL2.out.1 REL2.out.2.1 (fr_rowE _ _ _ _ _) HM.out h4 (N3.out.trans n4)
        · obtain ⟨Ba, ha⟩ := rest17 h2
          obtain ⟨_, hb, _⟩ := part_at 2 rfl ha
          have c0 : w2.cell? ⟨w.heap.size, 0, none⟩ = some (.int .i64 0) := by rw [cells_at hb.1]; rfl
          have c1 : w2.cell? ⟨w.heap.size, 1, none⟩ = some (.int .u32 0) := by rw [cells_at hb.1]; rfl
          have f0 := cells_free hb.1 0
          have f1 := cells_free hb.1 1
          have he : (er != 0) = true := by simpa using hO2.ne
          have KB := Lib.hid (hO2.way u)
          have HX2 := Lib.hid hx2
          have hlb := lt_of_block hb.1
          have T3 := Lib.hid (info_set (k := 0) (c := 0) (frs_all17 D P rs2 s2 b2 (M := WrA xw D P wx2 :: RowE 157 1 (.slice sa j sc) j (ptrs17 xs) :: Blk w.heap.size zInfo 37 :: M) ⟨fr_wr _ _ _ _, fr_rowE _ _ _ _ _, fr_blk _ _ _, HM.out⟩) h2)
          have N2 := Lib.hid (REL.out.2.2.trans n2)
          clear h2 n2 ha hb CP hx2 hO2
          go_wp2_with fail
          obtain ⟨B4, h4, n4⟩ := T3.out
          exact mg_leave rfl rfl rfl HX2.out KB.out (fr_rowE _ _ _ _ _) HM.out h4 (N2.out.trans n4)
  · have K1 := Lib.hid k1
    obtain ⟨_, hb, _⟩ := part_at 2 rfl k1
    have c0 : w1.cell? ⟨w.heap.size, 0, none⟩ = some (.int .i64 0) := by rw [cells_at hb.1]; rfl
    have c1 : w1.cell? ⟨w.heap.size, 1, none⟩ = some (.int .u32 0) := by rw [cells_at hb.1]; rfl
    have f0 := cells_free hb.1 0
    have f1 := cells_free hb.1 1
    have he : (R.2.2 != 0) = true := by simpa using h0
    have hlb := lt_of_block hb.1
    have T3 := Lib.hid (info_set0 (k := 0) (c := 0) (fr_disk _ _) (fr_bu _ _) HM.out k1)
    have KC := Lib.hid (MC.out h0)
    have N1 := Lib.hid (NW.out.trans n1)
    clear k1 n1 hb CR MC MS ZB NW
    go_wp2_with fail
    obtain ⟨B5, h5, n5, c0, c1⟩ := T3.out
    obtain ⟨B6, h6, n6⟩ := drop_db h5
    exact ⟨_, merge_results rfl rfl rfl c0 c1, _, _, 0, 0, _, rfl, KC.out, B6, h6, (N1.out.trans n5).trans n6⟩
end Go.Proofs.YtjplkmmhjfpdaaaGreatDoor
/- A sort's steps as calls: the first files are merged, and removed; the last one gets its name. -/
namespace Go.Proofs.YtjplkmmhjfpdaaaGreatDoor
open Go.RowKit FsPlain CrcPlain OctPlain FramePlain RecPlain RdPlain RnPlain WrPlain XsPlain
set_option linter.unusedVariables false
set_option linter.unusedSimpArgs false
set_option maxRecDepth 20000
def XsMerged (D P : Nat) (s0 : St) (b0 : Bu) (C inn out : ByteArray) (size : Int) (u : Bool) (s : St) (X Y : Wq) (o : ByteArray) (M : List Asn) (w : World) (B : Nat → Prop) (e : Ending) (w' : World) : Prop :=
  ∃ s1 b1 k c er, e = .returned (.tuple #[.agg #[.int .i64 k, .int .u32 c], .int .i64 er]) ∧ ((er = 0 ∧ XsM s0 b0 out size u X Y o s1 b1 ∧ k = ((sortT (X.map (·.2)).flatten u).length : Nat) ∧ c = (sumN (sortT (X.map (·.2)).flatten u) : Nat)) ∨ (er ≠ 0 ∧ SortR s0 b0 C inn out size u s1 b1 0 0 er)) ∧ s1.calls ≤ s.calls + 1000000 ∧ ∃ B', stars ([DiskA D s1, BuA P b1] ++ M) w' B' ∧ Nx B w B' w'
theorem xs_merge_c {D P : Nat} {s0 : St} {b0 : Bu} {C inn out : ByteArray} {size : Int} {u : Bool} {L : List ByteArray} {s : St} {b : Bu} {X Y : Wq} (hJ : XsJ s0 b0 C out size u L s b (X ++ Y)) (hz : I64 size) (hCz : C.size ≤ 5000) {o : ByteArray} (how : isB o.data.toList out.data.toList = true ∧ rightB o.data.toList = true ∧ o.size ≤ 24) (hno : ∀ p ∈ X ++ Y, p.1 ≠ o) (hX : X.length ≤ 64) (h16 : 16 ≤ b0.m - b0.now) (hfan : 4 * (X.length : Int) + 4 ≤ b0.m - b0.now) (hc0 : 0 ≤ s0.calls) (hcs : s.calls ≤ s0.calls + 900000000) (hc : s.calls ≤ 900000000) {v : Value} {w : World} {B : Nat → Prop} {M : List Asn} (hM : Frs M) (hv : ∀ (wr : World) (B' : Nat → Prop), stars M wr B' → Lies wr v (X.map (·.1))) (h : stars ([DiskA D s, BuA P b] ++ M) w B) :
    Calls Tryz.prog 99 #[.pointer (some ⟨D, 0, none⟩), .pointer (some ⟨P, 0, none⟩), v, .string o, .int .i64 size, .bool u] w (XsMerged D P s0 b0 C inn out size u s X Y o M w B) := by
  obtain ⟨f1, f2, f3, f4⟩ := hJ.files hCz hno hX
  have hnone : s.get o.data.toList = Option.none := hJ.none _ how.1 fun p hp e => hno p hp (ByteArray.ext (Array.toList_inj.1 e.symm))
  refine (merge17_c hz u f1 f2 f3 how.2.2 how.2.1 hnone (by omega) hM (by rw [f4]; exact hv) h).mono ?_
  rintro e w' ⟨s', b', k, c, er, he, hR, hst⟩
  have hcc := hR.calls
  exact ⟨s', b', k, c, er, he, hJ.merge (inn := inn) how.1 hno hX h16 hfan hR (by omega), hcc, hst⟩
def XsCleared (D P : Nat) (s0 : St) (b0 : Bu) (C inn out : ByteArray) (size : Int) (u : Bool) (L : List ByteArray) (s1 : St) (b1 : Bu) (X Y : Wq) (o : ByteArray) (M : List Asn) (w : World) (B : Nat → Prop) (e : Ending) (w' : World) : Prop :=
  ∃ s2 er, e = .returned (.int .i64 er) ∧ ((er = 0 ∧ XsJ s0 b0 C out size u L s2 b1 (Y ++ [(o, sortT (X.map (·.2)).flatten u)])) ∨ (er ≠ 0 ∧ SortR s0 b0 C inn out size u s2 b1 0 0 er)) ∧ s2.calls ≤ s1.calls + 64 ∧ ∃ B', stars ([DiskA D s2, BuA P b1] ++ M) w' B' ∧ Nx B w B' w'
theorem xs_clear_c {D P : Nat} {s0 : St} {b0 : Bu} {C inn out : ByteArray} {size : Int} {u : Bool} {L : List ByteArray} {s : St} {b : Bu} {X Y : Wq} (hJ : XsJ s0 b0 C out size u L s b (X ++ Y)) {o : ByteArray} (how : isB o.data.toList out.data.toList = true ∧ rightB o.data.toList = true ∧ o.size ≤ 24) (hno : ∀ p ∈ X ++ Y, p.1 ≠ o) (hX1 : 1 ≤ X.length ∨ X ++ Y = []) (hX : X.length ≤ 64) (h16 : 16 ≤ b0.m - b0.now) (hc0 : 0 ≤ s0.calls) {s1 : St} {b1 : Bu} (hMm : XsM s0 b0 out size u X Y o s1 b1) (hcs : s1.calls ≤ s0.calls + 950000000) (hc : s1.calls ≤ 950000000) {v : Value} {w : World} {B : Nat → Prop} {M : List Asn} (hM : Frs M) (hv : ∀ (wr : World) (B' : Nat → Prop), stars M wr B' → Lies wr v (X.map (·.1))) (h : stars ([DiskA D s1, BuA P b1] ++ M) w B) :
    Calls Tryz.prog 64 #[.pointer (some ⟨D, 0, none⟩), v] w (XsCleared D P s0 b0 C inn out size u L s1 b1 X Y o M w B) := by
  have hcl := clear_calls ((X.map (·.1)).map fun n => n.data.toList) s1
  rw [List.length_map, List.length_map] at hcl
  refine (clear17_c (l := X.map (·.1)) (by rw [List.length_map]; omega) (fun n hn => by
    obtain ⟨p, hp, rfl⟩ := List.mem_map.1 hn
    obtain ⟨_, w2, w3⟩ := hJ.way p (List.mem_append_left _ hp)
    exact ⟨w2, w3⟩) (by omega) (M := BuA P b1 :: M) ⟨fr_bu _ _, hM⟩ (fun wr B' k => by
    obtain ⟨B3, h3⟩ := tail17 k
    exact hv wr B3 h3) h).mono ?_
  rintro e w' ⟨he, B', h', n'⟩
  exact ⟨_, _, he, hJ.clear (inn := inn) how hno hX1 h16 hMm rfl (by omega), by omega, B', h', n'⟩
def XsRenamed (D P : Nat) (s0 : St) (b0 : Bu) (C inn out : ByteArray) (size : Int) (u : Bool) (s : St) (b : Bu) (l : List ByteArray) (M : List Asn) (w : World) (B : Nat → Prop) (e : Ending) (w' : World) : Prop :=
  ∃ s2 er, e = .returned (.int .i64 er) ∧ ((er = 0 ∧ SortR s0 b0 C inn out size u s2 b (l.length : Nat) (sumN l : Nat) 0) ∨ (er ≠ 0 ∧ SortR s0 b0 C inn out size u s2 b 0 0 er)) ∧ ∃ B', stars ([DiskA D s2, BuA P b] ++ M) w' B' ∧ Nx B w B' w'
theorem rename_calls (s : St) (a b : List UInt8) : (renameR s a b).1.calls = s.calls + 1 := by
  unfold renameR
  split
  · rfl
  · split <;> rfl
theorem xs_rename_c {D P : Nat} {s0 : St} {b0 : Bu} {C inn out : ByteArray} {size : Int} {u : Bool} {L : List ByteArray} {s : St} {b : Bu} {o : ByteArray} {l : List ByteArray} (hJ : XsJ s0 b0 C out size u L s b [(o, l)]) (hro : rightB out.data.toList = true ∧ out.size ≤ 24) (h16 : 16 ≤ b0.m - b0.now) (hcs : s.calls ≤ s0.calls + 950000000) (hc : s.calls ≤ 950000000) {w : World} {B : Nat → Prop} {M : List Asn} (hM : Frs M) (h : stars ([DiskA D s, BuA P b] ++ M) w B) :
    Calls Tryz.prog 72 #[.pointer (some ⟨D, 0, none⟩), .string o, .string out] w (XsRenamed D P s0 b0 C inn out size u s b l M w B) := by
  obtain ⟨_, w2, w3⟩ := hJ.way (o, l) (by simp)
  have w3' : o.size ≤ 24 := w3
  refine (does_at (L := [DiskA D s, BuA P b] ++ M) (Q := DiskA D (renameR s o.data.toList out.data.toList).1) 0 rfl (frs_dm D P s b hM) h fun B1 h1 => d_rename D s o out (by omega) w2 (by have := hro.2; omega) hro.1 (by omega) w B1 h1).mono ?_
  rintro e w' ⟨he, B', h', n'⟩
  have hcr := rename_calls s o.data.toList out.data.toList
  exact ⟨_, _, he, hJ.rename (inn := inn) hro.2 h16 rfl (by omega), B', h', n'⟩
end Go.Proofs.YtjplkmmhjfpdaaaGreatDoor
