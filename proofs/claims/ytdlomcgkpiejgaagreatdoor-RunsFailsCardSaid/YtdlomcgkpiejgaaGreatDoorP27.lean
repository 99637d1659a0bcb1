/- In one text: Rd1, RecSum, Rd2. -/
import Derived.Test.YtdlomcgkpiejgaaGreatDoorP26
import Derived.Test.YtdlomcgkpiejgaaGreatDoorP14
import Derived.Test.YtdlomcgkpiejgaaGreatDoorP22
import Derived.Deep.RegionHeld3
import Derived.Test.YtdlomcgkpiejgaaGreatDoorP09
import Derived.Test.YtdlomcgkpiejgaaGreatDoorP01
import Derived.StillTailTactics
/- The program's reader: where its bytes come from (look, pass); its parts. -/
namespace Go.Proofs.YtdlomcgkpiejgaaGreatDoor
open Go.RowKit FsPlain CrcPlain OctPlain FramePlain RecPlain RdPlain
set_option linter.unusedVariables false
set_option linter.unusedSimpArgs false
set_option maxRecDepth 20000
/-- The four cells of where bytes come from. -/
structure IsSrc (c : Array Value) (D : Nat) (nm : ByteArray) (pos left : Nat) : Prop where
  c0 : c[0]? = some (.pointer (some ⟨D, 0, none⟩))
  c1 : c[1]? = some (.string nm)
  c2 : c[2]? = some (.int .i64 (pos : Nat))
  c3 : c[3]? = some (.int .i64 (left : Nat))
theorem frs_sd (q D : Nat) (c : Array Value) (T : TypeId) (s : St) : Frs [Blk q c T, DiskA D s] := ⟨fr_blk _ _ _, fr_disk _ _, trivial⟩
theorem sd_blk {q D : Nat} {c : Array Value} {T : TypeId} {s : St} {w : World} {B : Nat → Prop} (h : stars [Blk q c T, DiskA D s] w B) : w.heap[q]? = some (.cells c T (0, 0)) := by
  obtain ⟨_, h, _⟩ := part_at 0 rfl h
  exact h.1
/-- The four cells as a world has them. -/
def SrcAt (q D : Nat) (nm : ByteArray) (pos left : Nat) (w : World) : Prop := w.cell? ⟨q, 0, none⟩ = some (.pointer (some ⟨D, 0, none⟩)) ∧ w.cell? ⟨q, 1, none⟩ = some (.string nm) ∧ w.cell? ⟨q, 2, none⟩ = some (.int .i64 (pos : Nat)) ∧ w.cell? ⟨q, 3, none⟩ = some (.int .i64 (left : Nat))
theorem src_at {q D : Nat} {c : Array Value} {T : TypeId} {nm : ByteArray} {pos left : Nat} {w : World} (hc : IsSrc c D nm pos left) (hb : w.heap[q]? = some (.cells c T (0, 0))) : SrcAt q D nm pos left w :=
  ⟨by rw [cells_at hb, hc.c0], by rw [cells_at hb, hc.c1], by rw [cells_at hb, hc.c2], by rw [cells_at hb, hc.c3]⟩
set_option maxHeartbeats 2000000 in
theorem src_look (q D : Nat) (c : Array Value) (T : TypeId) (s : St) (nm : ByteArray) (pos left n : Nat) (hc : IsSrc c D nm pos left) (hn : nm.size ≤ 24) (hm : rightB nm.data.toList = true) (hk : s.calls ≤ 1000000000000) (hp : pos + left ≤ 16777216) (hnn : n ≤ 1000000) (w : World) (B : Nat → Prop) (h : stars [Blk q c T, DiskA D s] w B) :
    Calls Tryz.prog 81 #[.pointer (some ⟨q, 0, none⟩), .int .i64 (n : Nat)] w (Does w B (stars [Blk q c T, DiskA D s.call]) (.tuple #[.string (bs (readR s nm.data.toList pos (min n left)).1), .int .i64 (readR s nm.data.toList pos (min n left)).2])) := by
  obtain ⟨t, ht⟩ : ∃ t, t = bs (readR s nm.data.toList pos (min n left)).1 := ⟨_, rfl⟩
  obtain ⟨er, her⟩ : ∃ er, er = (readR s nm.data.toList pos (min n left)).2 := ⟨_, rfl⟩
  obtain ⟨ak, hak⟩ : ∃ ak, ak = min n left := ⟨_, rfl⟩
  have K0 : ∀ u, Gr w u → SrcAt q D nm pos left u := fun u g => src_at hc (sd_blk (stars_gr (frs_sd _ _ _ _ _) h g))
  have CR : ∀ u, Gr w u → Calls Tryz.prog 43 #[.pointer (some ⟨D, 0, none⟩), .string nm, .int .i64 (pos : Nat), .int .i64 (ak : Nat)] u fun e w' => e = .returned (.tuple #[.string t, .int .i64 er]) ∧ (∃ B', stars [Blk q c T, DiskA D s.call] w' B' ∧ Nx B w B' w') ∧ SrcAt q D nm pos left w' := fun u g => by
    rw [ht, her, hak]
    have C := does_at (f := 43) (Q := DiskA D s.call) 1 rfl (frs_sd _ _ _ _ _) (stars_gr (frs_sd _ _ _ _ _) h g) fun B2 h2 => d_read D s nm pos (min n left) (by omega) hm hk (by omega) (by omega) u B2 h2
    refine C.mono ?_
    rintro e w' ⟨he, B', h', n'⟩
    exact ⟨he, ⟨B', h', (Nx.gr g).trans n'⟩, src_at hc (sd_blk h')⟩
  rw [← ht, ← her]
  have ai : min (n : Int) (left : Int) = (ak : Nat) := by omega
  have hmin : min (n : Int) (left : Int) = n ∨ min (n : Int) (left : Int) = left := by omega
  have hk2 : (ak : Int) ≤ 1000000000 := by omega
  have KS := Lib.hid K0
  have CRH := Lib.hid CR
  have gU := Gr.refl w
  have gUd : Gr w w.drew := Below.drew gU
  clear h K0 CR ht her hak hc hn hm hk
  go_enter Tryz.func81, Tryz.ntmps81
  go_wp2_with fail
  go_region_held3 (fun w' => w'.cell? ⟨q, 0, none⟩ = some (.pointer (some ⟨D, 0, none⟩)) ∧ w'.cell? ⟨q, 1, none⟩ = some (.string nm) ∧ w'.cell? ⟨q, 2, none⟩ = some (.int .i64 (pos : Nat)) ∧ w'.cell? ⟨q, 3, none⟩ = some (.int .i64 (left : Nat))) (first | exact KS.out _ gUd | exact KS.out _ (by assumption) | assumption | go_keep)
    ((go_at_call 43; refine (CRH.out _ (by assumption)).mono ?_; rintro e t2 ⟨rfl, hst, hks⟩))
  obtain ⟨B2, h2, n2⟩ := hst
  have H2 := Lib.hid h2
  have N2 := Lib.hid n2
  clear h2 n2 hks
  go_wp2_with fail
  go_ret2
  exact ⟨rfl, B2, H2.out, N2.out⟩
set_option maxHeartbeats 2000000 in
theorem src_pass (q : Nat) (c c' : Array Value) (T : TypeId) (pos left n pos' left' : Nat) (h2 : c[2]? = some (.int .i64 (pos : Nat))) (h3 : c[3]? = some (.int .i64 (left : Nat))) (hp : pos' = pos + n) (hl : left = left' + n) (hb : pos + left ≤ 16777216) (hc' : (c.setIfInBounds 2 (.int .i64 (pos' : Nat))).setIfInBounds 3 (.int .i64 (left' : Nat)) = c') (w : World) (B : Nat → Prop) (h : Blk q c T w B) :
    Calls Tryz.prog 83 #[.pointer (some ⟨q, 0, none⟩), .int .i64 (n : Nat)] w (Does w B (Blk q c' T) (.tuple #[])) := by
  have c2 : w.cell? ⟨q, 2, none⟩ = some (.int .i64 (pos : Nat)) := by rw [cells_at h.1, h2]
  have f2 := cells_free h.1 2
  have e1 : (pos : Int) + n = (pos' : Nat) := by omega
  have e2 : (left : Int) - n = (left' : Nat) := by omega
  have b1 : (pos' : Int) ≤ 16777216 := by omega
  have b2 : (left' : Int) ≤ 16777216 := by omega
  have c3 : w.cell? ⟨q, 3, none⟩ = some (.int .i64 (left : Nat)) := by rw [cells_at h.1, h3]
  have f3 := cells_free h.1 3
  obtain ⟨B1, k1, n1⟩ := blk_next (i := 2) h (.int .i64 (pos' : Nat))
  obtain ⟨B2, k2, n2⟩ := blk_next (i := 3) k1 (.int .i64 (left' : Nat))
  rw [hc'] at k2
  have K2 := Lib.hid k2
  have N2 := Lib.hid (n1.trans n2)
  clear h h2 h3 k1 k2 n1 n2 hp hl hb hc'
  go_enter Tryz.func83, Tryz.ntmps83
  go_wp2_with fail
  go_end0
  exact ⟨rfl, B2, K2.out, N2.out⟩
/-! The reader. -/
/-- An open one's cells: k is the sum so far, t whether the end was told. -/
def rdc (D P : Nat) (y : Rs) (vq : Value) (k : Nat) (t : Bool) : Array Value := #[.pointer (some ⟨D, 0, none⟩), .string y.nm, .int .i64 (y.pos : Nat), .int .i64 (y.left : Nat), .pointer (some ⟨P, 0, none⟩), .int .i64 y.size, vq, .bool y.short, .int .i64 (y.told : Nat), .int .u32 (k : Nat), .bool t]
/-- Those of one that is shut. -/
def rdshut (n k : Nat) (t : Bool) : Array Value := #[.pointer none, .string ⟨#[]⟩, .int .i64 0, .int .i64 0, .pointer none, .int .i64 0, .slice none 0 0, .bool false, .int .i64 (n : Nat), .int .u32 (k : Nat), .bool t]
/-- The four parts. -/
def rol (x D P : Nat) (s : St) (b : Bu) (c : Array Value) (vq : Value) (queue : List ByteArray) : List Asn := [Blk x c 96, DiskA D s, QueA vq queue, BuA P b]
theorem frs_rol (x D P : Nat) (s : St) (b : Bu) (c : Array Value) (vq : Value) (queue : List ByteArray) : Frs (rol x D P s b c vq queue) := ⟨fr_blk _ _ _, fr_disk _ _, fr_que _ _, fr_bu _ _, trivial⟩
theorem rol_blk {x D P : Nat} {s : St} {b : Bu} {c : Array Value} {vq : Value} {queue : List ByteArray} {w : World} {B : Nat → Prop} (h : stars (rol x D P s b c vq queue) w B) : w.heap[x]? = some (.cells c 96 (0, 0)) := by
  obtain ⟨_, h, _⟩ := part_at 0 rfl h
  exact h.1
theorem rol_set {x D P : Nat} {s : St} {b : Bu} {c c' : Array Value} {vq : Value} {queue : List ByteArray} {w : World} {B : Nat → Prop} (i : Nat) (u : Value) (h : stars (rol x D P s b c vq queue) w B) (hc : c.setIfInBounds i u = c') :
    ∃ B', stars (rol x D P s b c' vq queue) (w.setCell ⟨x, i, none⟩ u) B' ∧ Nx B w B' (w.setCell ⟨x, i, none⟩ u) :=
  step_at (Q := Blk x c' 96) 0 rfl (frs_rol _ _ _ _ _ _ _ _) h fun B1 h1 => by rw [← hc]; exact blk_next h1 u
/-- Without its queue. -/
theorem rol_none {x D P : Nat} {s : St} {b : Bu} {c : Array Value} {vq : Value} {queue : List ByteArray} {w : World} {B : Nat → Prop} (h : stars (rol x D P s b c vq queue) w B) :
    ∃ B', stars (rol x D P s b c (.slice none 0 0) []) w B' ∧ Nx B w B' w :=
  step_at (Q := QueA (.slice none 0 0) []) 2 rfl (frs_rol _ _ _ _ _ _ _ _) h fun B1 h1 => ⟨_, que_nil w, Only.refl _ _, fun b hb => hb.elim⟩
theorem src_rdc (D P : Nat) (y : Rs) (vq : Value) (k : Nat) (t : Bool) : IsSrc (rdc D P y vq k t) D y.nm y.pos y.left := ⟨rfl, rfl, rfl, rfl⟩
/-- An open reader, its disk, its budget: whether the end was told. -/
def RO (x D P : Nat) (m : N3) (t : Bool) : Asn := fun w B => ∃ vq, stars (rol x D P m.s m.b (rdc D P m.x vq (sumN m.x.all) t) vq m.x.queue) w B
theorem fr_ro (x D P : Nat) (m : N3) (t : Bool) : Fr (RO x D P m t) := ⟨fun ⟨vq, h⟩ o d => ⟨vq, (fr_stars (frs_rol _ _ _ _ _ _ _ _)).fr h o d⟩, fun ⟨vq, h⟩ => (fr_stars (frs_rol _ _ _ _ _ _ _ _)).lo h⟩
/-- One that is shut, beside them. -/
def RSh (x D P : Nat) (s : St) (b : Bu) (n k : Nat) (t : Bool) : Asn := stars (rol x D P s b (rdshut n k t) (.slice none 0 0) [])
/-- The program's reader, its disk, its budget. -/
def RP3 (x D P : Nat) (m : N3) : Asn := fun w B => (m.x.opn = true ∧ RO x D P m false w B) ∨ (m.x.opn = false ∧ RSh x D P m.s m.b m.x.told (sumN m.x.all) m.x.whole w B)
theorem fr_rp3 (x D P : Nat) (m : N3) : Fr (RP3 x D P m) where
  fr := fun h o d => h.imp (fun h => ⟨h.1, (fr_ro _ _ _ _ _).fr h.2 o d⟩) fun h => ⟨h.1, (fr_stars (frs_rol _ _ _ _ _ _ _ _)).fr h.2 o d⟩
  lo := fun h => h.elim (fun h => (fr_ro _ _ _ _ _).lo h.2) fun h => (fr_stars (frs_rol _ _ _ _ _ _ _ _)).lo h.2
theorem rp3_open {x D P : Nat} {m : N3} {w : World} {B : Nat → Prop} (ho : m.x.opn = true) (h : RP3 x D P m w B) : RO x D P m false w B := by
  rcases h with ⟨_, h⟩ | ⟨h1, _⟩
  · exact h
  · rw [ho] at h1; cases h1
theorem rp3_shut {x D P : Nat} {m : N3} {w : World} {B : Nat → Prop} (ho : m.x.opn = false) (h : RP3 x D P m w B) : RSh x D P m.s m.b m.x.told (sumN m.x.all) m.x.whole w B := by
  rcases h with ⟨h1, _⟩ | ⟨_, h⟩
  · rw [ho] at h1; cases h1
  · exact h
end Go.Proofs.YtdlomcgkpiejgaaGreatDoor
/- Contracts of both Sums. -/
namespace Go.Proofs.YtdlomcgkpiejgaaGreatDoor
open Go.RowKit CrcPlain OctPlain FramePlain RecPlain
set_option linter.unusedVariables false
set_option linter.unusedSimpArgs false
set_option maxRecDepth 20000
theorem blk_at {w : World} {b : Nat} {c : Array Value} {T : TypeId} (h : w.heap[b]? = some (.cells c T (0, 0))) (i : Nat) : w.cell? ⟨b, i, none⟩ = c[i]? := by simp [World.cell?, h]
theorem blk_free {w : World} {b : Nat} {c : Array Value} {T : TypeId} (h : w.heap[b]? = some (.cells c T (0, 0))) (i : Nat) : w.frozen? ⟨b, i, none⟩ = false := by simp [World.frozen?, h]
theorem blk_lt {w : World} {b : Nat} {o : Obj} (h : w.heap[b]? = some o) : b < w.heap.size := (Array.getElem?_eq_some_iff.1 h).1
theorem blk_set {w : World} {b : Nat} {c : Array Value} {T : TypeId} (h : w.heap[b]? = some (.cells c T (0, 0))) (i : Nat) (u : Value) : (w.setCell ⟨b, i, none⟩ u).heap[b]? = some (.cells (c.setIfInBounds i u) T (0, 0)) := by
  obtain ⟨hlt, hb⟩ := Array.getElem?_eq_some_iff.1 h
  simp only [World.setCell, Array.getElem?_modify, if_true, h]
  rfl
theorem blk_gr {w u : World} {b : Nat} {o : Obj} (h : w.heap[b]? = some o) (g : Gr w u) : u.heap[b]? = some o := (g.block b (blk_lt h)).trans h
theorem blk_other {w : World} {b : Nat} {o : Obj} (h : w.heap[b]? = some o) (a : Addr) (u : Value) (hne : a.block ≠ b) : (w.setCell a u).heap[b]? = some o := by
  rw [Below.heap_setCell _ _ _ _ (fun e => hne e.symm)]; exact h
theorem sumN_nil : sumN [] = 0 := by decide
theorem sumN_snoc (l : List ByteArray) (x : ByteArray) : sumN (l ++ [x]) = more (sumN l) x.data.toList := by
  unfold sumN; rw [cat_snoc, more_app]
theorem two_blks (w : World) (o p : Obj) : ((w.alloc o).alloc p).heap[w.heap.size]? = some o ∧ ((w.alloc o).alloc p).heap[w.heap.size + 1]? = some p ∧ Below w.heap.size w ((w.alloc o).alloc p) := by
  refine ⟨(Below.heap_alloc _ _ _ (by simp)).trans (heap_alloc_new w _), ?_, ((Gr.refl w).alloc (Nat.le_refl _) _).alloc (by simp) _⟩
  have := heap_alloc_new (w.alloc o) p
  rwa [World.size_alloc] at this
def SumAt (L : List ByteArray) (n : Nat) (w : World) (i : Value) (wr : World) : Prop :=
  ∃ j : Nat, j ≤ n ∧ i = .int .i64 j ∧ wr.heap[w.heap.size]? = some (.cells #[.int .i64 0, .int .u32 0] 48 (0, 0)) ∧ wr.heap[w.heap.size + 1]? = some (.cells #[.int .i64 n, .int .u32 (sumN (L.take j) : Nat)] 48 (0, 0)) ∧ Below w.heap.size w wr
/-- What both Sums come to. -/
def SumGot (L : List ByteArray) (w : World) (e : Ending) (w' : World) : Prop := e = .returned (.agg #[.int .i64 (L.length : Nat), .int .u32 (sumN L : Nat)]) ∧ Gr w w'
theorem sum_start (L : List ByteArray) (n : Nat) (w : World) : SumAt L n w (.int .i64 0) ((w.alloc (.cells #[.int .i64 0, .int .u32 0] 48)).alloc (.cells #[.int .i64 n, .int .u32 0] 48)) := by
  obtain ⟨h1, h2, h3⟩ := two_blks w (.cells #[.int .i64 0, .int .u32 0] 48) (.cells #[.int .i64 n, .int .u32 0] 48)
  refine ⟨0, Nat.zero_le _, rfl, h1, ?_, h3⟩
  rw [List.take_zero, sumN_nil]; exact h2
/-- Behind the store of a further sum. -/
theorem sum_next {L : List ByteArray} {n j : Nat} {w wr u : World} (hj : j < n) (r0 : wr.heap[w.heap.size]? = some (.cells #[.int .i64 0, .int .u32 0] 48 (0, 0)))
    (r1 : wr.heap[w.heap.size + 1]? = some (.cells #[.int .i64 n, .int .u32 (sumN (L.take j) : Nat)] 48 (0, 0))) (hb : Below w.heap.size w wr) (g : Gr wr u) (m : Nat) (hm : m = sumN (L.take (j + 1))) :
    SumAt L n w (.int .i64 ((j : Int) + 1)) (u.setCell ⟨w.heap.size + 1, 1, none⟩ (.int .u32 (m : Nat))) := by
  subst hm
  refine ⟨j + 1, hj, rfl, blk_other (blk_gr r0 g) _ _ (by simp), by simpa using blk_set (blk_gr r1 g) 1 (.int .u32 (sumN (L.take (j + 1)) : Nat)), ?_⟩
  exact ((Gr.of hb).trans g).setCell (p := ⟨w.heap.size + 1, 1, none⟩) (by simp) _
set_option maxRecDepth 20000 in
set_option maxHeartbeats 2000000 in
theorem rsum_c {w : World} {v : Value} {L : List ByteArray} (h : Lies w v L) (hl : L.length ≤ 1000000) (hz : ∀ s ∈ L, s.size ≤ 1000) :
    Calls Tryz.prog 27 #[v] w (SumGot L w) := by
  obtain ⟨a, c, rfl, hc, h⟩ := h
  obtain ⟨n, hn⟩ : ∃ n, L.length = n := ⟨_, rfl⟩
  have HN := Lib.hid hn
  have H0 : 1 ≤ n → ∃ b off, a = some ⟨b, off, none⟩ ∧ SRow w b off L := fun h1 => h.elim (fun h0 => by rw [h0] at hn; simp at hn; omega) id
  have H := Lib.hid H0
  have HZ := Lib.hid hz
  have hst := sum_start L n w
  rw [hn] at hl ⊢
  clear h hc hn H0 hz
  go_enter Tryz.func27, Tryz.ntmps27
  go_wp2_with fail
  go_loopw [4] (fun i wr => SumAt L n w i wr) (fun i _ => n - (intOf i).toNat)
  case atStart => exact hst
  case round =>
    clear hst
    obtain ⟨j, hj, rfl, r0, r1, hb⟩ := hrel
    have hln := HN.out
    by_cases hlt : j < n
    · obtain ⟨x, hx, hstep, hmem⟩ := take_at (l := L) (j := j) (by omega)
      obtain ⟨b, off, rfl, hr⟩ := H.out (by omega)
      have hcx : wr.cell? ⟨b, off + j, none⟩ = some (.string x) := by rw [hb.cell hr.1]; exact hr.2 j x hx
      have M := fun w => rmore_c (sumN (L.take j)) (sumN_lt _) x (HZ.out x hmem) w
      have hs := sumN_snoc (L.take j) x
      rw [← hstep] at hs
      have HS := Lib.hid hs.symm
      have c1 : wr.cell? ⟨w.heap.size + 1, 1, none⟩ = some (.int .u32 (sumN (L.take j) : Nat)) := by rw [blk_at r1]; rfl
      have hk : ∀ u, Gr wr u → u.cell? ⟨w.heap.size + 1, 1, none⟩ = some (.int .u32 (sumN (L.take j) : Nat)) ∧ u.frozen? ⟨w.heap.size + 1, 1, none⟩ = false :=
        fun u g => ⟨by rw [blk_at (blk_gr r1 g)]; rfl, blk_free (blk_gr r1 g) 1⟩
      have HK := Lib.hid hk
      have R0 := Lib.hid r0
      have R1 := Lib.hid r1
      have hbs0 : ∀ u, Gr wr u → ∀ m : Nat, m = sumN (L.take (j + 1)) → SumAt L n w (.int .i64 ((j : Int) + 1)) (u.setCell ⟨w.heap.size + 1, 1, none⟩ (.int .u32 (m : Nat))) := fun u g m hm => sum_next hlt r0 r1 hb g m hm
      have hbs := Lib.hid hbs0
      obtain ⟨m, hm⟩ : ∃ m, m = more (sumN (L.take j)) x.data.toList := ⟨_, rfl⟩
      rw [← hm] at M HS
      have HM := Lib.hid hm
      have MM := Lib.hid (fun w => (M w).mono fun e w' h => (show e = .returned (.int .u32 (m : Nat)) ∧ w' = w from ⟨h.1, h.2.symm⟩))
      have hl2 : (n : Int) ≤ 1000000 := by omega
      clear hm hs hbs0 hstep hmem hx hk r0 r1 hr H HZ M hl
      go_wp2_with fail
      obtain ⟨d1, f1⟩ := HK.out wr (Gr.refl _)
      refine wp_region_still_tail 8 (by kernel_rfl) (by kernel_rfl) ?_
      simp only [List.take_succ_cons, List.take_zero, List.drop_succ_cons, List.drop_zero]
      still_step
      still_step
      still_step
      still_step
      still_step
      still_step
      still_call (MM.out wr.drew)
      still_step
      refine wpStill_nil ?_
      change wpList _ _ _ _ _ wr.drew
      have f2 : wr.drew.frozen? ⟨w.heap.size + 1, 1, none⟩ = false := f1
      have d2 : wr.drew.cell? ⟨w.heap.size + 1, 1, none⟩ = some (.int .u32 (sumN (L.take j) : Nat)) := d1
      go_wp2_with fail
      refine ⟨hbs.out wr.drew (Gr.refl wr).drew m HS.out, ?_⟩
      simp [intOf]; omega
    · obtain rfl : j = n := by omega
      have hte : L.take j = L := List.take_of_length_le (by omega)
      rw [hte] at r1
      obtain ⟨m, hm⟩ : ∃ m, m = sumN L := ⟨_, rfl⟩
      rw [← hm] at r1
      have hw : Two w w.heap.size (.int .i64 0) (.int .u32 0) wr := ⟨blk_lt r0, by rw [blk_at r0]; rfl, by rw [blk_at r0]; rfl, blk_free r0 0, blk_free r0 1⟩
      obtain ⟨W, hW, d0, d1, gW⟩ := two_set hw (.int .i64 (j : Nat)) (.int .u32 (m : Nat)) (Gr.of hb) (Nat.le_refl _)
      have e0 : wr.cell? ⟨w.heap.size + 1, 0, none⟩ = some (.int .i64 (j : Nat)) := by rw [blk_at r1]; rfl
      have e1 : wr.cell? ⟨w.heap.size + 1, 1, none⟩ = some (.int .u32 (m : Nat)) := by rw [blk_at r1]; rfl
      obtain ⟨hlt2, c0, c1, f0, f1⟩ := hw
      have HW := Lib.hid hW
      have HM := Lib.hid hm
      clear hW r0 r1 hm hte H HZ
      go_wp2_with fail
      rw [← HW.out]
      exact bodyPost_ret (v := .agg #[.int .i64 (j : Nat), .int .u32 (m : Nat)]) (by simp [results, Tryz.results27, go_sem, d0, d1]) rfl ⟨by rw [hln, HM.out], gW⟩
end Go.Proofs.YtdlomcgkpiejgaaGreatDoor
/- The program's reader: open, over, info, Count, handOut, stop. -/
namespace Go.Proofs.YtdlomcgkpiejgaaGreatDoor
open Go.RowKit FsPlain CrcPlain OctPlain FramePlain RecPlain RdPlain
set_option linter.unusedVariables false
set_option linter.unusedSimpArgs false
set_option maxRecDepth 20000
theorem ropen_yes (x : Nat) (v : Addr) (w : World) (c0 : w.cell? ⟨x, 0, none⟩ = some (.pointer (some v))) :
    Calls Tryz.prog 59 #[.pointer (some ⟨x, 0, none⟩)] w fun e w' => e = .returned (.bool true) ∧ w = w' := by
  go_enter Tryz.func59, Tryz.ntmps59
  go_wp2_with fail
  go_ret
  exact ⟨rfl, rfl⟩
theorem ropen_no (x : Nat) (w : World) (c0 : w.cell? ⟨x, 0, none⟩ = some (.pointer none)) :
    Calls Tryz.prog 59 #[.pointer (some ⟨x, 0, none⟩)] w fun e w' => e = .returned (.bool false) ∧ w = w' := by
  go_enter Tryz.func59, Tryz.ntmps59
  go_wp2_with fail
  go_ret
  exact ⟨rfl, rfl⟩
theorem ropen_nil (w : World) :
    Calls Tryz.prog 59 #[.pointer none] w fun e w' => e = .returned (.bool false) ∧ w = w' := by
  go_enter Tryz.func59, Tryz.ntmps59
  go_wp2_with fail
  go_ret
  exact ⟨rfl, rfl⟩
theorem over_yes (x : Nat) (w : World) (c0 : w.cell? ⟨x, 10, none⟩ = some (.bool true)) :
    Calls Tryz.prog 84 #[.pointer (some ⟨x, 0, none⟩)] w fun e w' => e = .returned (.int .i64 0) ∧ w = w' := by
  go_enter Tryz.func84, Tryz.ntmps84
  go_wp2_with fail
  go_ret
  exact ⟨rfl, rfl⟩
theorem over_no (x : Nat) (w : World) (c0 : w.cell? ⟨x, 10, none⟩ = some (.bool false)) :
    Calls Tryz.prog 84 #[.pointer (some ⟨x, 0, none⟩)] w fun e w' => e = .returned (.int .i64 14) ∧ w = w' := by
  go_enter Tryz.func84, Tryz.ntmps84
  go_wp2_with fail
  go_ret
  exact ⟨rfl, rfl⟩
theorem over_nil (w : World) :
    Calls Tryz.prog 84 #[.pointer none] w fun e w' => e = .returned (.int .i64 14) ∧ w = w' := by
  go_enter Tryz.func84, Tryz.ntmps84
  go_wp2_with fail
  go_ret
  exact ⟨rfl, rfl⟩
set_option maxHeartbeats 1000000 in
/-- How many were handed out, and their sum. -/
theorem rinfo_at (x n k : Nat) (w : World) (hx : x < w.heap.size) (c8 : w.cell? ⟨x, 8, none⟩ = some (.int .i64 (n : Nat))) (c9 : w.cell? ⟨x, 9, none⟩ = some (.int .u32 (k : Nat))) :
    Calls Tryz.prog 129 #[.pointer (some ⟨x, 0, none⟩)] w fun e w' => e = .returned (.agg #[.int .i64 (n : Nat), .int .u32 (k : Nat)]) ∧ Gr w w' := by
  obtain ⟨W, hW⟩ : ∃ W, W = w.alloc (.cells #[.int .i64 0, .int .u32 0] 48) := ⟨_, rfl⟩
  have g0 : Gr w W := by rw [hW]; exact Below.alloc (Below.refl _ _) (Nat.le_refl _) _
  have d8 : W.drew.cell? ⟨x, 8, none⟩ = some (.int .i64 (n : Nat)) := (g0.cell (p := ⟨x, 8, none⟩) hx).trans c8
  have d9 : W.drew.cell? ⟨x, 9, none⟩ = some (.int .u32 (k : Nat)) := (g0.cell (p := ⟨x, 9, none⟩) hx).trans c9
  have hw : Two w w.heap.size (.int .i64 0) (.int .u32 0) W.drew := two_new w _ _ 48 (by rw [hW]; exact (Gr.refl _).drew)
  obtain ⟨V, hV, v0, v1, gV⟩ := two_set hw (.int .i64 (n : Nat)) (.int .u32 (k : Nat)) g0.drew (Nat.le_refl _)
  obtain ⟨hlt2, b0, b1, f0, f1⟩ := hw
  have HW := Lib.hid hW
  have HV := Lib.hid hV
  have d8' : W.cell? ⟨x, 8, none⟩ = some (.int .i64 (n : Nat)) := d8
  have d9' : W.cell? ⟨x, 9, none⟩ = some (.int .u32 (k : Nat)) := d9
  clear hW hV g0 c8 c9
  go_enter Tryz.func129, Tryz.ntmps129
  go_wp2_with fail
  rw [← HW.out]
  go_still_tail 9, (by kernel_rfl)
  change wpList _ _ _ _ _ W.drew
  generalize W.drew = W2 at *
  go_wp2_with fail
  rw [← HV.out]
  refine bodyPost_ret (v := .agg #[.int .i64 (n : Nat), .int .u32 (k : Nat)]) (by simp [results, Tryz.results129, go_sem, v0, v1]) rfl ⟨rfl, gV⟩
/-- Behind the two stores of handOut. -/
theorem ro_pop {x D P b off n c : Nat} {s : St} {bu : Bu} {y : Rs} {k : Nat} {r : ByteArray} {l : List ByteArray} {w : World} {B : Nat → Prop} (h : stars (rol x D P s bu (rdc D P y (.slice (some ⟨b, off, none⟩) n c) k false) (.slice (some ⟨b, off, none⟩) n c) y.queue) w B) (hrl : y.queue = r :: l) (hk : k = sumN y.all) (a : Option Addr) (m q : Nat) (hm : m = l.length) (hq : m ≤ q) (ha : 1 ≤ l.length → a = some ⟨b, off + 1, none⟩) (hz : ∀ b' off', a = some ⟨b', off', none⟩ → b' = b) (t : Int) (ht : t = (y.told : Int) + 1) :
    ∃ B', RO x D P ⟨s, bu, { y with queue := y.queue.tail, told := y.told + 1 }⟩ false ((w.setCell ⟨x, 6, none⟩ (.slice a m q)).setCell ⟨x, 8, none⟩ (.int .i64 t)) B' ∧ Nx B w B' ((w.setCell ⟨x, 6, none⟩ (.slice a m q)).setCell ⟨x, 8, none⟩ (.int .i64 t)) := by
  subst hk
  have h0 : ∃ B', stars (rol x D P s bu (rdc D P y (.slice (some ⟨b, off, none⟩) n c) (sumN y.all) false) (.slice a m q) l) w B' ∧ Nx B w B' w :=
    step_at (Q := QueA (.slice a m q) l) 2 rfl (frs_rol _ _ _ _ _ _ _ _) h fun B1 h1 => ⟨B1, que_tail (by rw [hrl] at h1; exact h1) a m q hm hq ha hz, Nx.refl _ _⟩
  obtain ⟨B0, h0, n0⟩ := h0
  obtain ⟨B1, h1, n1⟩ := rol_set (c' := rdc D P y (.slice a m q) (sumN y.all) false) 6 (.slice a m q) h0 rfl
  obtain ⟨B2, h2, n2⟩ := rol_set (c' := rdc D P { y with queue := y.queue.tail, told := y.told + 1 } (.slice a m q) (sumN y.all) false) 8 (.int .i64 t) h1 (by rw [ht]; rfl)
  have e : l = y.queue.tail := by rw [hrl]; rfl
  rw [e] at h2
  exact ⟨B2, ⟨.slice a m q, h2⟩, (n0.trans n1).trans n2⟩
set_option maxHeartbeats 2000000 in
theorem r_hand (x D P : Nat) (m : N3) (hql : m.x.queue.length ≤ 4) (hq : m.x.queue ≠ []) (ht : m.x.told ≤ 100000) (w : World) (B : Nat → Prop) (h : RO x D P m false w B) :
    Calls Tryz.prog 86 #[.pointer (some ⟨x, 0, none⟩)] w (Does w B (RO x D P (popN m).1 false) (.string (popN m).2.1)) := by
  obtain ⟨vq, h⟩ := h
  obtain ⟨_, hqa, _⟩ := part_at 2 rfl h
  obtain ⟨b, off, c, rfl, hc, hr, _⟩ := que_open hqa hq
  obtain ⟨r, l, hrl⟩ := List.exists_cons_of_ne_nil hq
  have y0 : w.cell? ⟨b, off, none⟩ = some (.string r) := by have := hr.2 0 r (by rw [hrl]; rfl); simpa using this
  have hb := rol_blk h
  obtain ⟨n, hn⟩ : ∃ n, m.x.queue.length = n := ⟨_, rfl⟩
  have hn1 : 1 ≤ n := by rw [← hn, hrl]; simp
  have hn4 : n ≤ 4 := by rw [← hn]; exact hql
  obtain ⟨k, hk⟩ : ∃ k, k = sumN m.x.all := ⟨_, rfl⟩
  rw [← hk] at h hb
  have c6 : w.cell? ⟨x, 6, none⟩ = some (.slice (some ⟨b, off, none⟩) n c) := by rw [cells_at hb, ← hn]; rfl
  have c8 : w.cell? ⟨x, 8, none⟩ = some (.int .i64 m.x.told) := by rw [cells_at hb]; rfl
  have f6 := cells_free hb 6
  have f8 := cells_free hb 8
  have hv : (popN m).2.1 = r := by unfold popN; rw [hrl]; rfl
  rw [hv]
  have H := Lib.hid h
  have HN := Lib.hid hn
  have HK := Lib.hid hk
  have HRL := Lib.hid hrl
  rw [hn] at hc
  clear h hqa hr hb hn hrl hq hql hk hv
  go_enter Tryz.func86, Tryz.ntmps86
  go_wp2_with fail
  · have hnl : n - 1 = l.length := by have := HN.out; rw [HRL.out] at this; simp at this; omega
    obtain ⟨B2, h2, n2⟩ := ro_pop (a := some ⟨b, off, none⟩) (m := n - 1) (q := 0) (by have := H.out; rw [HN.out] at this; exact this) HRL.out HK.out hnl (by omega) (fun h => by omega) (fun b' off' e => by simp at e; exact e.1.symm) ((m.x.told : Int) + 1) rfl
    go_ret
    exact ⟨rfl, B2, h2, n2⟩
  · have hnl : n - 1 = l.length := by have := HN.out; rw [HRL.out] at this; simp at this; omega
    obtain ⟨B2, h2, n2⟩ := ro_pop (a := some ⟨b, off + 1, none⟩) (m := n - 1) (q := c - 1) (by have := H.out; rw [HN.out] at this; exact this) HRL.out HK.out hnl (by omega) (fun h => rfl) (fun b' off' e => by simp at e; exact e.1.symm) ((m.x.told : Int) + 1) rfl
    go_ret
    exact ⟨rfl, B2, h2, n2⟩
end Go.Proofs.YtdlomcgkpiejgaaGreatDoor
