/- In one text: MgClear, MgProg. -/
import Derived.Test.YtjplkmmhjfpdaaaGreatDoorQ14
import Derived.Test.YtjplkmmhjfpdaaaGreatDoorQ16
import Derived.Test.YtjplkmmhjfpdaaaGreatDoorQ37
/- The program's Clear: files removed, in order. -/
namespace Go.Proofs.YtjplkmmhjfpdaaaGreatDoor
open Go.RowKit FsPlain CrcPlain OctPlain FramePlain RecPlain RdPlain RnPlain WrPlain
set_option linter.unusedVariables false
set_option linter.unusedSimpArgs false
set_option maxRecDepth 20000
theorem clear_snoc : ∀ (l : List (List UInt8)) (s : St) (n : List UInt8), (clearR s l).2 = 0 → clearR s (l ++ [n]) = if (removeR (clearR s l).1 n).2 = 0 then ((removeR (clearR s l).1 n).1, 0) else removeR (clearR s l).1 n
  | [], s, n, _ => rfl
  | x :: r, s, n, h => by
    have e : ∀ t, clearR s (x :: t) = if (removeR s x).2 = 0 then clearR (removeR s x).1 t else removeR s x := fun _ => rfl
    rw [List.cons_append, e, e]
    rw [e] at h
    by_cases h0 : (removeR s x).2 = 0
    · rw [if_pos h0] at h
      simp only [if_pos h0]
      exact clear_snoc r _ n h
    · rw [if_neg h0] at h
      exact absurd h h0
theorem clear_stop : ∀ (l r : List (List UInt8)) (s : St), (clearR s l).2 ≠ 0 → clearR s (l ++ r) = clearR s l
  | [], r, s, h => absurd rfl h
  | x :: l, r, s, h => by
    have e : ∀ t, clearR s (x :: t) = if (removeR s x).2 = 0 then clearR (removeR s x).1 t else removeR s x := fun _ => rfl
    rw [List.cons_append, e, e]
    rw [e] at h
    by_cases h0 : (removeR s x).2 = 0
    · rw [if_pos h0] at h
      simp only [if_pos h0]
      exact clear_stop l r _ h
    · simp only [if_neg h0]
theorem remove_calls (s : St) (n : List UInt8) : (removeR s n).1.calls = s.calls + 1 := by
  unfold removeR
  split
  · rfl
  · split <;> rfl
theorem clear_calls : ∀ (l : List (List UInt8)) (s : St), (clearR s l).1.calls ≤ s.calls + (l.length : Nat)
  | [], s => by show s.calls ≤ s.calls + ((0 : Nat) : Int); omega
  | x :: l, s => by
    have h1 := remove_calls s x
    have h2 := clear_calls l (removeR s x).1
    unfold clearR
    simp only [List.length_cons]
    split
    · omega
    · omega
def raw8 (l : List ByteArray) : List (List UInt8) := l.map fun n => n.data.toList
def ClAt (D : Nat) (s : St) (l : List ByteArray) (M : List Asn) (w : World) (B : Nat → Prop) (i : Value) (wr : World) : Prop :=
  ∃ (j : Nat) (B' : Nat → Prop), j ≤ l.length ∧ i = .int .i64 (j : Int) ∧ (clearR s (raw8 (l.take j))).2 = 0 ∧ stars ([DiskA D (clearR s (raw8 (l.take j))).1] ++ M) wr B' ∧ Nx B w B' wr
theorem lies_cell17 {w : World} {a : Option Addr} {n c : Nat} {l : List ByteArray} (h : Lies w (.slice a n c) l) {j : Nat} {r : ByteArray} (hr : l[j]? = some r) : ∃ b off, a = some ⟨b, off, none⟩ ∧ b < w.heap.size ∧ w.cell? ⟨b, off + j, none⟩ = some (.string r) := by
  obtain ⟨a', c', e, _, hrow⟩ := h
  simp only [Value.slice.injEq] at e
  obtain ⟨rfl, _, _⟩ := e
  rcases hrow with h0 | ⟨b, off, e, hrw⟩
  · rw [h0] at hr; simp at hr
  · exact ⟨b, off, e, hrw.1, hrw.2 j r hr⟩
set_option maxHeartbeats 4000000 in
theorem clear17_c {D : Nat} {s : St} {l : List ByteArray} {v : Value} (hl : l.length ≤ 1000) (hn : ∀ n ∈ l, rightB n.data.toList = true ∧ n.size ≤ 24) (hc : s.calls ≤ 1000000000) {w : World} {B : Nat → Prop} {M : List Asn} (hM : Frs M) (hv : ∀ (wr : World) (B' : Nat → Prop), stars M wr B' → Lies wr v l) (h : stars ([DiskA D s] ++ M) w B) :
    Calls Tryz.prog 64 #[.pointer (some ⟨D, 0, none⟩), v] w (Does w B (stars ([DiskA D (clearR s (l.map fun n => n.data.toList)).1] ++ M)) (.int .i64 (clearR s (l.map fun n => n.data.toList)).2)) := by
  have sh : ∃ a c, v = .slice a l.length c := by
    obtain ⟨B1, B2, _, h2, _⟩ := stars_app.1 h
    obtain ⟨a, c, e, _⟩ := hv w B2 h2
    exact ⟨a, c, e⟩
  obtain ⟨va, vc, rfl⟩ := sh
  have START := Lib.hid (show ClAt D s l M w B (.int .i64 0) w from ⟨0, B, Nat.zero_le _, rfl, rfl, h, Nx.refl _ _⟩)
  have HV := Lib.hid hv
  have HN := Lib.hid hn
  have HC := Lib.hid hc
  have HM := Lib.hid hM
  obtain ⟨m, hm⟩ : ∃ m, l.length = m := ⟨_, rfl⟩
  have HL := Lib.hid hm
  rw [hm] at hl HV ⊢
  have hl9 : (m : Int) ≤ 1000 := by omega
  clear hm hv hn hc hM h hl
  go_enter Tryz.func64, Tryz.ntmps64
  go_wp2_with fail
  go_loopw [10] (fun i wr => ClAt D s l M w B i wr) (fun i _ => m - (intOf i).toNat)
  case atStart => exact START.out
  case round =>
    obtain ⟨j, B', hj, rfl, h0, hst, nx⟩ := hrel
    have hjm := HL.out
    rw [hjm] at hj
    have ST := Lib.hid hst
    have NX := Lib.hid nx
    by_cases hlt : j < m
    · have hltI : (j : Int) < (m : Int) := by omega
      obtain ⟨r, hr⟩ : ∃ r, l[j]? = some r := ⟨l[j]'(by omega), List.getElem?_eq_getElem _⟩
      have hstep : l.take (j + 1) = l.take j ++ [r] := by rw [List.take_add_one, hr]; rfl
      obtain ⟨nr, nz⟩ := HN.out r (List.mem_of_getElem? hr)
      have hlies : Lies wr (.slice va m vc) l := by
        obtain ⟨_, B2, _, h2, _⟩ := stars_app.1 hst
        exact HV.out wr B2 h2
      obtain ⟨vb, off, rfl, hbl, cr⟩ := lies_cell17 hlies hr
      have hcc := clear_calls (raw8 (l.take j)) s
      have hlen : (raw8 (l.take j)).length ≤ 1000 := by unfold raw8; rw [List.length_map, List.length_take]; omega
      have CR := Lib.hid (does_pre (L' := [DiskA D (removeR (clearR s (raw8 (l.take j))).1 r.data.toList).1]) [DiskA D (clearR s (raw8 (l.take j))).1] HM.out hst fun B1 h1 => by
        obtain ⟨B2, B3, q, hnil, _, e⟩ := h1
        have hB : B2 = B1 := by funext x; rw [eq_iff_iff, e x]; exact ⟨.inl, fun k => k.resolve_right (hnil x)⟩
        subst hB
        exact (d_remove D _ r (by omega) nr (by have := HC.out; omega) wr B2 q).mono fun e w' hd => hd.imp fun B' q => stars_one q)
      have SN := clear_snoc (raw8 (l.take j)) s r.data.toList h0
      have hraw : raw8 (l.take (j + 1)) = raw8 (l.take j) ++ [r.data.toList] := by unfold raw8; rw [hstep, List.map_append]; rfl
      rw [← hraw] at SN
      have ALL := Lib.hid (show (clearR s (raw8 (l.take (j + 1)))).2 ≠ 0 → clearR s (l.map fun n => n.data.toList) = clearR s (raw8 (l.take (j + 1))) from fun hne => by
        have := clear_stop (raw8 (l.take (j + 1))) (raw8 (l.drop (j + 1))) s hne
        rw [show raw8 (l.take (j + 1)) ++ raw8 (l.drop (j + 1)) = l.map fun n => n.data.toList by unfold raw8; rw [← List.map_append, List.take_append_drop]] at this
        exact this)
      obtain ⟨Q, hQ⟩ : ∃ Q, removeR (clearR s (raw8 (l.take j))).1 r.data.toList = Q := ⟨_, rfl⟩
      rw [hQ] at CR SN
      have SNH := Lib.hid SN
      clear hst nx hlies hr hstep nr nz hcc hlen SN hraw hQ START hjm h0
      go_wp2_with fail
      refine CR.out.mono ?_; rintro e u ⟨rfl, B2, k2, n2⟩
      have K2 := Lib.hid k2
      have N2 := Lib.hid (NX.out.trans n2)
      clear k2 n2 CR
      by_cases hq : Q.2 = 0
      · have hq1 : (Q.2 != 0) = false := by simp [hq]
        have e1 : clearR s (raw8 (l.take (j + 1))) = (Q.1, 0) := by rw [SNH.out, if_pos hq]
        have REL := Lib.hid (show ClAt D s l M w B (.int .i64 ((j : Int) + 1)) u from ⟨j + 1, B2, by have := HL.out; omega, rfl, by rw [e1], by rw [e1]; exact K2.out, N2.out⟩)
        clear e1
        go_wp2_with fail
        refine ⟨REL.out, ?_⟩
        simp [intOf]; omega
      · have hq1 : (Q.2 != 0) = true := by simpa using hq
        have e1 : clearR s (raw8 (l.take (j + 1))) = Q := by rw [SNH.out, if_neg hq]
        have e2 := ALL.out (by rw [e1]; exact hq)
        rw [e1] at e2
        have E2 := Lib.hid e2
        clear e1 e2
        go_wp2_with fail
        go_ret
        rw [E2.out]
        exact ⟨rfl, B2, K2.out, N2.out⟩
    · obtain rfl : j = m := by omega
      have e1 : raw8 (l.take j) = l.map fun n => n.data.toList := by unfold raw8; rw [List.take_of_length_le (by omega)]
      rw [e1] at h0 hst
      have ST2 := Lib.hid hst
      have H0 := Lib.hid h0
      clear hst nx h0 e1 START ST hjm
      go_wp2_with fail
      go_ret
      rw [H0.out]
      exact ⟨rfl, B', ST2.out, NX.out⟩
end Go.Proofs.YtjplkmmhjfpdaaaGreatDoor
/- The program's Merge. -/
namespace Go.Proofs.YtjplkmmhjfpdaaaGreatDoor
open Go.RowKit FsPlain CrcPlain OctPlain FramePlain RecPlain RdPlain RnPlain LoPlain WrPlain
set_option linter.unusedVariables false
set_option linter.unusedSimpArgs false
set_option maxRecDepth 20000
theorem merge_results {fn : Func} (hfn : fn.results = #[.cell 12 37, .tmp 13]) {tmps : Array Value} {o : Nat} {k c er : Int} {w : World} (h12 : tmps.getD 12 undef = .pointer (some ⟨o, 0, none⟩)) (h13 : tmps.getD 13 undef = .int .i64 er) (c0 : w.cell? ⟨o, 0, none⟩ = some (.int .i64 k)) (c1 : w.cell? ⟨o, 1, none⟩ = some (.int .u32 c)) :
    (results fn tmps).run Tryz.prog w = .ok (.tuple #[.agg #[.int .i64 k, .int .u32 c], .int .i64 er]) w := by
  rw [results_cell_tmp hfn, h12, h13]
  simp [go_sem, c0, c1]
theorem perm_start (r x d b : Asn) (M : List Asn) : (r :: x :: d :: b :: M).Perm (d :: b :: x :: r :: M) := by
  have h1 : (r :: x :: d :: b :: M).Perm (x :: r :: d :: b :: M) := List.Perm.swap _ _ _
  have h2 : ([x, r] ++ ([d, b] ++ M)).Perm ([d, b] ++ ([x, r] ++ M)) := by
    rw [← List.append_assoc, ← List.append_assoc]
    exact List.perm_append_comm.append_right _
  exact h1.trans h2
theorem frs_perm {L M : List Asn} (p : L.Perm M) : Frs L → Frs M := by
  induction p with
  | nil => exact id
  | cons x _ ih => exact fun h => ⟨h.1, ih h.2⟩
  | swap x y l => exact fun h => ⟨h.2.1, h.1, h.2.2⟩
  | trans _ _ h1 h2 => exact fun h => h2 (h1 h)
theorem drop_db {d b a : Asn} {M : List Asn} {w : World} {B : Nat → Prop} (h : stars ([d, b] ++ (a :: M)) w B) : ∃ B', stars ([d, b] ++ M) w B' ∧ Nx B w B' w := drop_in (R := []) (K := [d, b]) h
theorem mid_step {R K M : List Asn} {a p Q : Asn} {w w' : World} {B : Nat → Prop} (hF : Frs (R ++ (K ++ (a :: p :: M)))) (h : stars (R ++ (K ++ (a :: p :: M))) w B) (k : ∀ B1, p w B1 → ∃ B', Q w' B' ∧ Nx B1 w B' w') : ∃ B', stars (R ++ (K ++ (a :: Q :: M))) w' B' ∧ Nx B w B' w' := by
  have hF2 : Frs (a :: p :: (R ++ (K ++ M))) := frs_perm (perm_in2 R K M a p) hF
  obtain ⟨B1, k1, n1⟩ := step_at (L := a :: p :: (R ++ (K ++ M))) (Q := Q) 1 rfl hF2 (stars_perm (perm_in2 R K M a p) h) k
  exact ⟨B1, stars_perm (perm_in2 R K M a Q).symm k1, n1⟩
theorem perm_in3 (R K M : List Asn) (a b c : Asn) : (R ++ (K ++ (a :: b :: c :: M))).Perm (a :: b :: c :: (R ++ (K ++ M))) :=
  (perm_in2 R K (c :: M) a b).trans (((perm_in R K M c).cons b).cons a)
theorem info_set {R K M : List Asn} {a p : Asn} {o : Nat} {k c : Int} {w : World} {B : Nat → Prop} (hF : Frs (R ++ (K ++ (a :: p :: Blk o #[.int .i64 0, .int .u32 0] 37 :: M)))) (h : stars (R ++ (K ++ (a :: p :: Blk o #[.int .i64 0, .int .u32 0] 37 :: M))) w B) : ∃ B', stars (R ++ (K ++ (a :: p :: Blk o #[.int .i64 k, .int .u32 c] 37 :: M))) ((w.setCell ⟨o, 0, none⟩ (.int .i64 k)).setCell ⟨o, 1, none⟩ (.int .u32 c)) B' ∧ Nx B w B' ((w.setCell ⟨o, 0, none⟩ (.int .i64 k)).setCell ⟨o, 1, none⟩ (.int .u32 c)) := by
  have hF2 : Frs (a :: p :: Blk o #[.int .i64 0, .int .u32 0] 37 :: (R ++ (K ++ M))) := frs_perm (perm_in3 R K M a p _) hF
  obtain ⟨B1, k1, n1⟩ := step_at (L := a :: p :: Blk o #[.int .i64 0, .int .u32 0] 37 :: (R ++ (K ++ M))) (Q := Blk o #[.int .i64 k, .int .u32 c] 37) 2 rfl hF2 (stars_perm (perm_in3 R K M a p _) h) fun B1 q => by
    obtain ⟨B2, q2, m2⟩ := blk_next (i := 0) q (.int .i64 k)
    obtain ⟨B3, q3, m3⟩ := blk_next (i := 1) q2 (.int .u32 c)
    exact ⟨B3, q3, m2.trans m3⟩
  exact ⟨B1, stars_perm (perm_in3 R K M a p _).symm k1, n1⟩
theorem info_set0 {d b : Asn} {M : List Asn} {o : Nat} {k c : Int} {w : World} {B : Nat → Prop} (hd : Fr d) (hb : Fr b) (hM : Frs M) (h : stars ([d, b] ++ (Blk o #[.int .i64 0, .int .u32 0] 37 :: M)) w B) : ∃ B', stars ([d, b] ++ (Blk o #[.int .i64 k, .int .u32 c] 37 :: M)) ((w.setCell ⟨o, 0, none⟩ (.int .i64 k)).setCell ⟨o, 1, none⟩ (.int .u32 c)) B' ∧ Nx B w B' ((w.setCell ⟨o, 0, none⟩ (.int .i64 k)).setCell ⟨o, 1, none⟩ (.int .u32 c)) ∧ ((w.setCell ⟨o, 0, none⟩ (.int .i64 k)).setCell ⟨o, 1, none⟩ (.int .u32 c)).cell? ⟨o, 0, none⟩ = some (.int .i64 k) ∧ ((w.setCell ⟨o, 0, none⟩ (.int .i64 k)).setCell ⟨o, 1, none⟩ (.int .u32 c)).cell? ⟨o, 1, none⟩ = some (.int .u32 c) := by
  obtain ⟨B1, k1, n1⟩ := step_at (L := [d, b] ++ (Blk o #[.int .i64 0, .int .u32 0] 37 :: M)) (Q := Blk o #[.int .i64 k, .int .u32 c] 37) 2 rfl ⟨hd, hb, fr_blk _ _ _, hM⟩ h fun B1 q => by
    obtain ⟨B2, q2, m2⟩ := blk_next (i := 0) q (.int .i64 k)
    obtain ⟨B3, q3, m3⟩ := blk_next (i := 1) q2 (.int .u32 c)
    exact ⟨B3, q3, m2.trans m3⟩
  obtain ⟨_, hb, _⟩ := part_at (L := [d, b] ++ (Blk o #[.int .i64 k, .int .u32 c] 37 :: M)) 2 rfl k1
  exact ⟨B1, k1, n1, by rw [cells_at hb.1]; rfl, by rw [cells_at hb.1]; rfl⟩
theorem rowE_liesV {E : TypeId} {v : Value} {n : Nat} {xs : List Value} {w : World} {B : Nat → Prop} (h : RowE E 1 v n xs w B) (hn : xs.length = n) : LiesV w v xs := by
  have hc := fun g hg => h.1.cells (g := g) hg
  rcases h.1.2 with ⟨rfl, h0⟩ | ⟨g, cap, cur, rfl, _, hb, h1, h2, _⟩
  · have : xs = [] := List.eq_nil_of_length_eq_zero (by omega)
    subst this
    exact ⟨none, 0, rfl, Nat.le_refl _, .inl rfl⟩
  · refine ⟨_, cap, by rw [hn], by rw [hn]; exact h1, .inr ⟨g, 0, rfl, lt_of_block hb, fun j x hj => ?_⟩⟩
    have := hc g rfl j x hj
    rw [add_zero g j] at this
    rw [Nat.zero_add]
    exact this
theorem infoSrc : (Tryz.prog.info? 157).map (fun i => (i.zero, i.size, i.bytes)) = some (some (.agg #[.pointer none]), 1, 8) := by kernel_rfl
def dropD (x : Nat) : Deferred := { target := .fn (.func 116) #[], args := #[.pointer (some ⟨x, 0, none⟩)] }
def zInfo : Array Value := #[.int .i64 0, .int .u32 0]
theorem mg_leave {fn : Func} (hfn : fn.results = #[.cell 12 37, .tmp 13]) {tmps : Array Value} {o : Nat} {k c er : Int} (h12 : tmps.getD 12 undef = .pointer (some ⟨o, 0, none⟩)) (h13 : tmps.getD 13 undef = .int .i64 er) {D P xw : Nat} {s0 : St} {b0 : Bu} {F : List (ByteArray × ByteArray)} {out : ByteArray} {size : Int} {u : Bool} {s : St} {b : Bu} {wx : Ws} {rs : List (Nat × Rs)} {xs : List Nat} (hx : rs.map (·.1) = xs) (hway : Way s0 b0 F out size u s b wx (rs.map (·.2)) k c er) {X : Asn} (hX : Fr X) {M : List Asn} (hM : Frs M) {w0 w : World} {B0 B : Nat → Prop} (h : stars (rdsA D P rs ++ ([DiskA D s, BuA P b] ++ (WrA xw D P wx :: X :: Blk o #[.int .i64 k, .int .u32 c] 37 :: M))) w B) (nx : Nx B0 w0 B w) :
    Leaves Tryz.prog fn tmps (MergeGot D P s0 b0 F out size u M w0 B0) ((xs.map closeD).reverse ++ [dropD xw]) .returning w := by
  have e : (xs.map closeD).reverse = ((rs.take rs.length).map fun r => closeD r.1).reverse := by rw [List.take_length, ← hx, List.map_map]; rfl
  have FX : Frs (X :: Blk o #[.int .i64 k, .int .u32 c] 37 :: M) := ⟨hX, fr_blk _ _ _, hM⟩
  rw [e]
  refine leaves_rds (M := WrA xw D P wx :: X :: Blk o #[.int .i64 k, .int .u32 c] 37 :: M) ⟨fr_wr _ _ _ _, FX⟩ rs.length rs b 0 w B (Nat.le_refl _) (fun r hr => hway.inv r.2 (List.mem_map.2 ⟨r, hr, rfl⟩)) (left_zero hway.bok) (by rw [List.take_length]; have := hway.now; omega) h nx (fun rs' b' w' B' hL hst hnx => ?_)
  rw [List.take_length, Nat.zero_add] at hL
  refine leaves_cons (f := 116) (args := #[.pointer (some ⟨xw, 0, none⟩)]) (by simp [settle]) (by simp [go_sem]) ?_
  refine (mdrop_d .returning FX hst).mono ?_
  rintro e u' w2 ⟨rfl, rfl, B2, h2, n2⟩
  obtain ⟨B3, h3, n3⟩ := forget17 h2
  obtain ⟨B4, h4, n4⟩ := drop_db h3
  obtain ⟨B5, h5, n5⟩ := drop_db h4
  obtain ⟨Ba, hb, _⟩ := part_at 2 rfl (show stars ([DiskA D _, BuA P _] ++ (Blk o #[.int .i64 k, .int .u32 c] 37 :: M)) w2 B5 from h5)
  have c0 : w2.cell? ⟨o, 0, none⟩ = some (.int .i64 k) := by rw [cells_at hb.1]; rfl
  have c1 : w2.cell? ⟨o, 1, none⟩ = some (.int .u32 c) := by rw [cells_at hb.1]; rfl
  obtain ⟨B6, h6, n6⟩ := drop_db h5
  exact ⟨_, merge_results hfn h12 h13 c0 c1, _, _, k, c, er, rfl, hway.fin b' hL, B6, h6, ((((hnx.trans n2).trans n3).trans n4).trans n5).trans n6⟩
def OpAt (D P xw o : Nat) (s0 : St) (b0 : Bu) (F : List (ByteArray × ByteArray)) (out : ByteArray) (size : Int) (wx : Ws) (m : Nat) (M : List Asn) (w : World) (B : Nat → Prop) (k : Nat) (sv jv : Value) (ds : List Deferred) (wr : World) : Prop :=
  ∃ j s b rs xs sa sc B', j + k = m ∧ jv = .int .i64 (j : Int) ∧ ds = (xs.map closeD).reverse ++ [dropD xw] ∧ rs.map (·.1) = xs ∧ xs.length = j ∧ MgS s0 b0 F out size s b wx (rs.map (·.2)) (List.replicate xs.length ([], false)) [] ∧ sv = .slice sa j sc ∧ stars (rdsA D P rs ++ ([DiskA D s, BuA P b] ++ (WrA xw D P wx :: RowE 157 1 sv j (ptrs17 xs) :: Blk o zInfo 37 :: M))) wr B' ∧ Nx B w B' wr
set_option maxHeartbeats 16000000 in
theorem merge17_c {D P : Nat} {s : St} {b : Bu} {F : List (ByteArray × ByteArray)} {out : ByteArray} {size : Int} {v : Value} (hz : I64 size) (u : Bool) (hF : ∀ p ∈ F, HasD s p.1.data.toList p.2 ∧ p.2.size ≤ 5000 ∧ rightB p.1.data.toList = true ∧ p.1.size ≤ 24 ∧ p.1 ≠ out) (hl : F.length ≤ 64) (hsum : (F.map fun p => p.2.size).sum ≤ 90000) (ho : out.size ≤ 24) (hor : rightB out.data.toList = true) (hon : s.get out.data.toList = none) (hc : s.calls ≤ 10000000000) {w : World} {B : Nat → Prop} {M : List Asn} (hM : Frs M) (hv : ∀ (wr : World) (B' : Nat → Prop), stars M wr B' → Lies wr v (F.map (·.1))) (h : stars ([DiskA D s, BuA P b] ++ M) w B) :
    Calls Tryz.prog 99 #[.pointer (some ⟨D, 0, none⟩), .pointer (some ⟨P, 0, none⟩), v, .string out, .int .i64 size, .bool u] w (MergeGot D P s b F out size u M w B) := by
  have hsok : s.ok := by
    obtain ⟨_, hd, _⟩ := part_at 0 rfl h
    exact hd.1
  have hbok : b.ok := by
    obtain ⟨_, hb, _⟩ := part_at 1 rfl h
    exact hb.1
  obtain ⟨m, hm⟩ : ∃ m, F.length = m := ⟨_, rfl⟩
  have sh : ∃ a c, v = .slice a m c := by
    obtain ⟨_, B2, _, h2, _⟩ := stars_app.1 h
    obtain ⟨a, c, e, _⟩ := hv w B2 h2
    rw [List.length_map, hm] at e
    exact ⟨a, c, e⟩
  obtain ⟨va, vc, rfl⟩ := sh
  obtain ⟨BW, kW, nW⟩ : ∃ B', stars ([DiskA D s, BuA P b] ++ (Blk w.heap.size zInfo 37 :: M)) (w.alloc (.cells #[.int .i64 0, .int .u32 0] 37)) B' ∧ Nx B w B' (w.alloc (.cells #[.int .i64 0, .int .u32 0] 37)) := by
    obtain ⟨B3, k3, n3⟩ := part_new (P := Blk w.heap.size zInfo 37) (B' := fun b => b = w.heap.size) (L := [DiskA D s, BuA P b] ++ M) (frs_app (frs_db17 D P s b) hM) h (gral17 w (.cells #[.int .i64 0, .int .u32 0] 37)) ⟨heap_alloc_new w _, fun _ => Iff.rfl⟩ (fun b hb => by rw [hb]; exact Nat.le_refl _)
    exact ⟨B3, stars_perm (perm_in [] [DiskA D s, BuA P b] M _).symm k3, n3⟩
  have FM0 : Frs (Blk w.heap.size zInfo 37 :: M) := ⟨fr_blk _ _ _, hM⟩
  have CR := Lib.hid (wr_create (nm := out) hz ho hor (by omega) FM0 kW)
  have MC := Lib.hid (fun (h0 : (createM s b out size).2.2 ≠ 0) => mg_create (F := F) u hsok hbok ho hor hon h0)
  have MS := Lib.hid (fun (hzb : sizeB size = true) (h0 : (createM s b out size).2.2 = 0) => mgS_start (F := F) hsok hbok ho hor hzb hon h0)
  have ZB := Lib.hid (show (createM s b out size).2.2 = 0 → sizeB size = true from fun h0 => by
    cases hzb : sizeB size
    · have e : createM s b out size = (s, b, 1) := by unfold createM; rw [if_pos (by simp [hzb])]
      rw [e] at h0; exact absurd h0 (show ¬ (1 : Int) = 0 by decide)
    · rfl)
  obtain ⟨R, hR⟩ : ∃ R, createM s b out size = R := ⟨_, rfl⟩
  rw [hR] at CR MC MS ZB
  have HV := Lib.hid hv
  have HF := Lib.hid (show FilesOk s F out from hF)
  have HL := Lib.hid hl
  have HU := Lib.hid hsum
  have HC := Lib.hid hc
  have HM := Lib.hid hM
  have HZ := Lib.hid hz
  have HMM := Lib.hid hm
  have NW := Lib.hid nW
  have t64 : decide ((64 : Int) < (m : Int)) = false := by simp; omega
  have hm64 : (m : Int) ≤ 64 := by omega
  clear hv hF hl hsum hc hM hz hm h hsok hbok ho hor hon kW nW hR FM0
  go_enter_defers Tryz.func99, Tryz.ntmps99
  go_wp2_with fail
  refine CR.out.mono ?_
  rintro e w1 (⟨h0, xw, rfl, B1, k1, n1⟩ | ⟨h0, rfl, B1, k1, n1⟩)
  · have START := Lib.hid (show OpAt D P xw w.heap.size s b F out size (newWs out size) m M w B m (.slice none 0 0) (.int .i64 0) [dropD xw] w1 from by
      obtain ⟨B2, k2, n2⟩ := part_new (P := RowE 157 1 (.slice none 0 0) 0 (ptrs17 [])) (B' := fun _ => False) (L := [WrA xw D P (newWs out size), DiskA D R.1, BuA P R.2.1] ++ (Blk w.heap.size zInfo 37 :: M)) ⟨fr_wr _ _ _ _, fr_disk _ _, fr_bu _ _, fr_blk _ _ _, HM.out⟩ k1 (Gr.refl _) (rowE_nil _ _ w1) (fun b hb => hb.elim)
      refine ⟨0, R.1, R.2.1, [], [], none, 0, B2, Nat.zero_add _, rfl, rfl, rfl, rfl, MS.out (ZB.out h0) h0, rfl, ?_, (NW.out.trans n1).trans n2⟩
      refine stars_perm ?_ k2
      show (RowE 157 1 (.slice none 0 0) 0 (ptrs17 []) :: WrA xw D P (newWs out size) :: DiskA D R.1 :: BuA P R.2.1 :: Blk w.heap.size zInfo 37 :: M).Perm (DiskA D R.1 :: BuA P R.2.1 :: WrA xw D P (newWs out size) :: RowE 157 1 (.slice none 0 0) 0 (ptrs17 []) :: Blk w.heap.size zInfo 37 :: M)
      exact perm_start _ _ _ _ _)
    clear k1 n1 CR MC MS ZB NW h0
    go_wp2_with fail
    refine wp_loop_ghost_k (fun k a wr => ∃ sv jv ds u6 u7 u8 u9 u10 u11 u13 u15 u17 u18 u19 u20 u21 u22 u23 u24 u25 u26 u27 u28 u29 u30 u31 u32 u33 u34 u35 u36 u37 u38 u42 u43 u44 u45 u46 u47 u48 u49 u50 u51 u52 u53 u54 u55 u56 u57 u58 u59 u60 u61 u62 u63 u64 u65 u66 u67 u68 u69 u70 u71 u72 u73 u74 u75, OpAt D P xw w.heap.size s b F out size (newWs out size) m M w B k sv jv ds wr ∧ a = ⟨#[.pointer (some ⟨D, 0, none⟩), .pointer (some ⟨P, 0, none⟩), .slice va m vc, .string out, .int .i64 size, .bool u, u6, u7, u8, u9, u10, u11, .pointer (some ⟨w.heap.size, 0, none⟩), u13, .pointer (some ⟨xw, 0, none⟩), u15, sv, u17, u18, u19, u20, u21, u22, u23, u24, u25, u26, u27, u28, u29, u30, u31, u32, u33, u34, u35, u36, u37, u38, .slice va m vc, .int .i64 (m : Int), jv, u42, u43, u44, u45, u46, u47, u48, u49, u50, u51, u52, u53, u54, u55, u56, u57, u58, u59, u60, u61, u62, u63, u64, u65, u66, u67, u68, u69, u70, u71, u72, u73, u74, u75], ds⟩) m ?_ ?_
    · (repeat apply Exists.intro)
      refine ⟨?_, rfl⟩
      exact START.out
    · clear START
      rintro gk _ wr ⟨sv, jv, ds, u6, u7, u8, u9, u10, u11, u13, u15, u17, u18, u19, u20, u21, u22, u23, u24, u25, u26, u27, u28, u29, u30, u31, u32, u33, u34, u35, u36, u37, u38, u42, u43, u44, u45, u46, u47, u48, u49, u50, u51, u52, u53, u54, u55, u56, u57, u58, u59, u60, u61, u62, u63, u64, u65, u66, u67, u68, u69, u70, u71, u72, u73, u74, u75, hrel, rfl⟩
      intro _ _ _ _
      obtain ⟨j, s1, b1, rs, xs, sa, sc, B', hjk, rfl, rfl, hx, hxl, hS, rfl, hst, nx⟩ := hrel
      have hrl : (rs.map (·.2)).length = j := by rw [List.length_map, ← hxl, ← hx, List.length_map]
      have FM : Frs (WrA xw D P (newWs out size) :: RowE 157 1 (.slice sa j sc) j (ptrs17 xs) :: Blk w.heap.size zInfo 37 :: M) := ⟨fr_wr _ _ _ _, fr_rowE _ _ _ _ _, fr_blk _ _ _, HM.out⟩
      have hpl : (ptrs17 xs).length = j := by unfold ptrs17; rw [List.length_map, hxl]
      have hcs := hS.calls17 HF.out HL.out (Nat.zero_le _)
      by_cases hlt : j < m
      · obtain ⟨⟨nm, C⟩, hi⟩ : ∃ p, F[j]? = some p := ⟨F[j]'(by rw [HMM.out]; exact hlt), List.getElem?_eq_getElem _⟩
        have hp := HF.out _ (List.mem_of_getElem? hi)
        have CO := rds_open (nm := nm) HZ.out hS.wr.ok.s hp.2.2.2.1 hp.2.2.1 (by have := HC.out; show s1.calls ≤ _; omega) FM hst
        have KO := hS.open HF.out (nm := nm) (C := C) (by rw [hrl]; exact hi)
        have OO := Lib.hid (fun (h0 : (openN s1 b1 nm size).2.2.1 ≠ 0) (hN : NoOpen s1 b1 C size (openN s1 b1 nm size)) => hS.out_open HF.out HL.out (nm := nm) (C := C) (by rw [hrl]; exact hi) h0 hN)
        obtain ⟨O, hO⟩ : ∃ O, openN s1 b1 nm size = O := ⟨_, rfl⟩
        rw [hO] at CO KO OO
        have COH := Lib.hid CO
        obtain ⟨bq, off, hva, hbq, hcell⟩ : ∃ b off, va = some ⟨b, off, none⟩ ∧ b < wr.heap.size ∧ wr.cell? ⟨b, off + j, none⟩ = some (.string nm) := by
          obtain ⟨B2, h2⟩ := rest17 hst
          obtain ⟨B3, h3⟩ := tail17 h2
          obtain ⟨B4, h4⟩ := tail17 h3
          obtain ⟨B5, h5⟩ := tail17 h4
          exact lies_cell17 (HV.out wr B5 h5) (by rw [List.getElem?_map, hi]; rfl)
        subst hva
        have hlI : (j : Int) < (m : Int) := by omega
        have REL := Lib.hid (show rs.map (·.1) = xs ∧ xs.length = j ∧ j + gk = m ∧ (ptrs17 xs).length = j ∧ Nx B w B' wr from ⟨hx, hxl, hjk, hpl, nx⟩)
        clear hx hxl hjk hpl nx hst CO hS hi hp hrl hO FM hcs
        rcases KO with ⟨k1, k2⟩ | ⟨k1, k2⟩
        · have HS := Lib.hid k2
          have HK1 := Lib.hid k1
          clear k1 k2 OO
          obtain ⟨i0, hi0⟩ : ∃ i, Tryz.prog.info? 157 = some i ∧ (i.zero, i.size, i.bytes) = (some (.agg #[.pointer none]), 1, 8) := by
            have := infoSrc
            rw [Option.map_eq_some_iff] at this
            obtain ⟨i, h1, h2⟩ := this
            exact ⟨i, h1, h2⟩
          obtain ⟨hi', hz'⟩ := hi0
          simp only [Prod.mk.injEq] at hz'
          obtain ⟨hz0, hz1, hz2⟩ := hz'
          go_wp2_with fail
          refine COH.out.mono ?_
          rintro e w2 (⟨_, x, rfl, B2, h2, n2⟩ | ⟨h0, _⟩)
          · have OWN : w2.ownsRow 0 157 1 (.slice sa j sc) j (ptrs17 xs) := by
              obtain ⟨Ba, ha⟩ := rest17 h2
              obtain ⟨_, hb, _⟩ := part_at 1 rfl ha
              exact hb.1
            have OW := Lib.hid OWN
            have H2 := Lib.hid h2
            have N2 := Lib.hid (REL.out.2.2.2.2.trans n2)
            clear h2 n2 COH OWN hcell
            go_wp2_with (first
              | (at_builtin; refine wpList_append_own_at _ rfl _ _ 155 rfl 0 157 i0 (.agg #[.pointer none]) 1 8 Tryz.underlying155 hi' hz0 hz1 hz2 rfl (by decide) (.slice sa j sc) j (ptrs17 xs) rfl (OW.out.alloc _) ⟨w2.heap.size, 0, none⟩ 1 1 [.pointer (some ⟨x, 0, none⟩)] rfl rfl (cell_one_new _ _ _) (by simp [Value.oneCell']) (by unfold maxLen; omega) (by omega) (Nat.zero_le _) ?_)
              | fail)
            intro v5 w5 ho5 hg5 _ ha5
            have FX : Frs (rdsA D P (rs ++ [(x, newRs nm size O.2.2.2)]) ++ ([DiskA D O.1, BuA P O.2.1] ++ (WrA xw D P (newWs out size) :: RowE 157 1 (.slice sa j sc) j (ptrs17 xs) :: Blk w.heap.size zInfo 37 :: M))) := frs_all17 D P _ _ _ ⟨fr_wr _ _ _ _, fr_rowE _ _ _ _ _, fr_blk _ _ _, HM.out⟩
            obtain ⟨B5, h5, n5⟩ := mid_step (Q := RowE 157 1 v5 (j + 1) (ptrs17 xs ++ [.pointer (some ⟨x, 0, none⟩)])) FX H2.out (fun B1 h1 => rowE_next h1 (gral17 w2 (.cells #[.pointer (some ⟨x, 0, none⟩)] 157)) ho5 hg5 (by rw [World.size_alloc]; exact ha5))
            have hsh : ∃ s5 c5, v5 = .slice s5 (j + 1) c5 := by
              rcases ho5.2 with ⟨e1, e2⟩ | ⟨g, cap, cur, e1, _⟩
              · exact absurd e2 (by omega)
              · exact ⟨_, cap, e1⟩
            obtain ⟨s5, c5, rfl⟩ := hsh
            have H5 := Lib.hid h5
            have N5 := Lib.hid (N2.out.trans n5)
            clear ho5 hg5 ha5 h5 n5 H2 OW FX N2
            go_wp2_with fail
            go_roundg (gk - 1)
            case measure => have := REL.out.2.2.1; omega
            case rel =>
              have hj := REL.out.2.1
              refine ⟨j + 1, O.1, O.2.1, rs ++ [(x, newRs nm size O.2.2.2)], xs ++ [x], s5, c5, B5, by have := REL.out.2.2.1; omega, rfl, ?_, by rw [List.map_append, REL.out.1]; rfl, by rw [List.length_append, hj]; rfl, ?_, rfl, ?_, N5.out⟩
              · rw [List.map_append, List.reverse_append]; rfl
              · have := HS.out
                rw [List.map_append, List.length_append, List.length_singleton, List.replicate_succ']
                exact this
              · have := H5.out
                unfold ptrs17 at this ⊢
                rw [List.map_append]
                exact this
          · exact absurd HK1.out h0
        · have KB := Lib.hid (OO.out k1 k2)
          have he : (O.2.2.1 != 0) = true := by simpa using k1
          have HK1 := Lib.hid k1
          clear k1 k2 OO
          go_wp2_with fail
          refine COH.out.mono ?_
          rintro e w2 (⟨h0, _⟩ | ⟨_, rfl, B2, h2, n2⟩)
          · exact absurd h0 HK1.out
          · obtain ⟨Ba, ha⟩ := rest17 h2
            obtain ⟨_, hb, _⟩ := part_at 2 rfl ha
            have c0 : w2.cell? ⟨w.heap.size, 0, none⟩ = some (.int .i64 0) := by rw [cells_at hb.1]; rfl
            have c1 : w2.cell? ⟨w.heap.size, 1, none⟩ = some (.int .u32 0) := by rw [cells_at hb.1]; rfl
            have f0 := cells_free hb.1 0
            have f1 := cells_free hb.1 1
            have hlb := lt_of_block hb.1
            have T3 := Lib.hid (info_set (k := 0) (c := 0) (frs_all17 D P rs O.1 O.2.1 (M := WrA xw D P (newWs out size) :: RowE 157 1 (.slice sa j sc) j (ptrs17 xs) :: Blk w.heap.size zInfo 37 :: M) ⟨fr_wr _ _ _ _, fr_rowE _ _ _ _ _, fr_blk _ _ _, HM.out⟩) h2)
            have N2 := Lib.hid (REL.out.2.2.2.2.trans n2)
            clear h2 n2 ha hb COH hcell
            go_wp2_with fail
            obtain ⟨B4, h4, n4⟩ := T3.out
            exact mg_leave rfl rfl rfl REL.out.1 (KB.out.way u) (fr_rowE _ _ _ _ _) HM.out h4 (N2.out.trans n4)
      · have hjm : j = m := by omega
        subst hjm
        have LV := fun (wr : World) (B' : Nat → Prop) (k : stars (RowE 157 1 (.slice sa j sc) j (ptrs17 xs) :: Blk w.heap.size zInfo 37 :: M) wr B') => (by
          obtain ⟨_, hr, _⟩ := part_at 0 rfl k
          exact rowE_liesV hr hpl : LiesV wr (.slice sa j sc) (ptrs17 xs))
        have CP := Lib.hid (pour17_c u hx HF.out HL.out HU.out HC.out hS (M := RowE 157 1 (.slice sa j sc) j (ptrs17 xs) :: Blk w.heap.size zInfo 37 :: M) ⟨fr_rowE _ _ _ _ _, fr_blk _ _ _, HM.out⟩ LV hst)
        have REL := Lib.hid (show rs.map (·.1) = xs ∧ xs.length = j ∧ Nx B w B' wr from ⟨hx, hxl, nx⟩)
        clear hx hxl hjk hpl nx hst hS hrl FM hcs LV
        go_wp2_with fail
        refine CP.out.mono ?_
        rintro e w2 (⟨s2, b2, wx2, rs2, G, T, H, done, B2, rfl, hx2, hS2, hT2, hb2, h2, n2⟩ | ⟨er, s2, b2, wx2, rs2, B2, rfl, hx2, hO2, h2, n2⟩)
        · have hcs := hS2.calls17 HF.out HL.out hT2.few
          have hcg := hS2.src.few17 HU.out HL.out
          have hfw := hT2.few
          have hal : wx2.all.length ≤ 100000 := by rw [hS2.wr.all]; omega
          have hyl : (rs2.map (·.2)).length = F.length := by rw [List.length_map, HMM.out, ← REL.out.2.1, ← hx2, List.length_map]
          have CC := mclose_c (x := xw) hS2.wr.ok hal (by have := HC.out; omega) (M := RowE 157 1 (.slice sa j sc) j (ptrs17 xs) :: Blk w.heap.size zInfo 37 :: M) ⟨fr_rowE _ _ _ _ _, fr_blk _ _ _, HM.out⟩ h2
          have KC := fun X (hX : closeM ⟨s2, b2, wx2⟩ = X) => hS2.close17 HF.out HL.out HU.out hyl hT2 hb2 hX
          obtain ⟨⟨M5, e5⟩, h5⟩ : ∃ X, closeM ⟨s2, b2, wx2⟩ = X := ⟨_, rfl⟩
          rw [h5] at CC
          obtain ⟨kk, cc, hcv, hway⟩ := KC _ h5
          simp only at hcv hway CC
          rw [hcv] at CC
          have CCH := Lib.hid CC
          have REL2 := Lib.hid (show rs2.map (·.1) = xs ∧ Way s b F out size u M5.s M5.b M5.x (rs2.map (·.2)) kk cc e5 ∧ Nx B w B2 w2 from ⟨hx2, hway, REL.out.2.2.trans n2⟩)
          clear hcs hcg hfw hal hyl CC KC h5 hcv hway hx2 hS2 hT2 hb2 h2 n2 CP
          go_wp2_with fail
          refine CCH.out.mono ?_; rintro e w3 ⟨rfl, B3, h3, n3⟩
          obtain ⟨Ba, ha⟩ := rest17 h3
          obtain ⟨_, hb, _⟩ := part_at 2 rfl ha
          have c0 : w3.cell? ⟨w.heap.size, 0, none⟩ = some (.int .i64 0) := by rw [cells_at hb.1]; rfl
          have c1 : w3.cell? ⟨w.heap.size, 1, none⟩ = some (.int .u32 0) := by rw [cells_at hb.1]; rfl
          have f0 := cells_free hb.1 0
          have f1 := cells_free hb.1 1
          have hlb := lt_of_block hb.1
          have T3 := Lib.hid (info_set (k := kk) (c := cc) (frs_all17 D P rs2 M5.s M5.b (M := WrA xw D P M5.x :: RowE 157 1 (.slice sa j sc) j (ptrs17 xs) :: Blk w.heap.size zInfo 37 :: M) ⟨fr_wr _ _ _ _, fr_rowE _ _ _ _ _, fr_blk _ _ _, HM.out⟩) h3)
          have N3 := Lib.hid (REL2.out.2.2.trans n3)
          clear h3 n3 ha hb CCH
          go_wp2_with fail
          obtain ⟨B4, h4, n4⟩ := T3.out
          exact mg_leave rfl rfl rfl REL2.out.1 REL2.out.2.1 (fr_rowE _ _ _ _ _) HM.out h4 (N3.out.trans n4)
        · obtain ⟨Ba, ha⟩ := rest17 h2
          obtain ⟨_, hb, _⟩ := part_at 2 rfl ha
          have c0 : w2.cell? ⟨w.heap.size, 0, none⟩ = some (.int .i64 0) := by rw [cells_at hb.1]; rfl
          have c1 : w2.cell? ⟨w.heap.size, 1, none⟩ = some (.int .u32 0) := by rw [cells_at hb.1]; rfl
          have f0 := cells_free hb.1 0
          have f1 := cells_free hb.1 1
          have he : (er != 0) = true := by simpa using hO2.ne
          have KB := Lib.hid (hO2.way u)
          have HX2 := Lib.hid hx2
          have hlb := lt_of_block hb.1
          have T3 := Lib.hid (info_set (k := 0) (c := 0) (frs_all17 D P rs2 s2 b2 (M := WrA xw D P wx2 :: RowE 157 1 (.slice sa j sc) j (ptrs17 xs) :: Blk w.heap.size zInfo 37 :: M) ⟨fr_wr _ _ _ _, fr_rowE _ _ _ _ _, fr_blk _ _ _, HM.out⟩) h2)
          have N2 := Lib.hid (REL.out.2.2.trans n2)
          clear h2 n2 ha hb CP hx2 hO2
          go_wp2_with fail
          obtain ⟨B4, h4, n4⟩ := T3.out
          exact mg_leave rfl rfl rfl HX2.out KB.out (fr_rowE _ _ _ _ _) HM.out h4 (N2.out.trans n4)
  · have K1 := Lib.hid k1
    obtain ⟨_, hb, _⟩ := part_at 2 rfl k1
    have c0 : w1.cell? ⟨w.heap.size, 0, none⟩ = some (.int .i64 0) := by rw [cells_at hb.1]; rfl
    have c1 : w1.cell? ⟨w.heap.size, 1, none⟩ = some (.int .u32 0) := by rw [cells_at hb.1]; rfl
    have f0 := cells_free hb.1 0
    have f1 := cells_free hb.1 1
    have he : (R.2.2 != 0) = true := by simpa using h0
    have hlb := lt_of_block hb.1
    have T3 := Lib.hid (info_set0 (k := 0) (c := 0) (fr_disk _ _) (fr_bu _ _) HM.out k1)
    have KC := Lib.hid (MC.out h0)
    have N1 := Lib.hid (NW.out.trans n1)
    clear k1 n1 hb CR MC MS ZB NW
    go_wp2_with fail
    obtain ⟨B5, h5, n5, c0, c1⟩ := T3.out
    obtain ⟨B6, h6, n6⟩ := drop_db h5
    exact ⟨_, merge_results rfl rfl rfl c0 c1, _, _, 0, 0, _, rfl, KC.out, B6, h6, (N1.out.trans n5).trans n6⟩
end Go.Proofs.YtjplkmmhjfpdaaaGreatDoor
