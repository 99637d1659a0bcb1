/- In one text: FsFall, FsRise, FsA, Rd1, RecSum. -/
import Derived.Test.YtojlceoeacebmaaP12
import Derived.StillTailTactics
import Derived.Test.YtojlceoeacebmaaP09
import Derived.Deep.RegionHeld3
import Derived.Test.YtojlceoeacebmaaP07
import Derived.Test.YtojlceoeacebmaaP01
/- The contract of a file's fall; the order of the names. -/
namespace Go.Proofs.Ytojlceoeacebmaa
open Go.RowKit Go.Maps FsPlain
set_option linter.unusedVariables false
set_option linter.unusedSimpArgs false
set_option maxRecDepth 20000

theorem before_le : ∀ a b : List UInt8, bytesBefore a b = true → a ≤ b
  | [], b, _ => List.nil_le b
  | _ :: _, [], h => by simp [bytesBefore] at h
  | x :: r, y :: q, h => by
    simp only [bytesBefore, Bool.or_eq_true, Bool.and_eq_true, decide_eq_true_eq, beq_iff_eq] at h
    rw [List.cons_le_cons_iff]
    rcases h with h | ⟨h1, h2⟩
    · exact .inl h
    · exact .inr ⟨h1, before_le r q h2⟩

theorem DiskAt.sorted {w : World} {p m : Nat} {s : St} {B : Nat → Prop} {L : List Pl} (h : DiskAt w p s B m L) : (L.map fun x => x.f.name).mergeSort (fun x y => decide (x ≤ y)) = L.map fun x => x.f.name := by
  obtain ⟨es, clock, _, F, _, hD⟩ := h.own
  have hp := sorted_sorted lawS.one _ (fit_keys F) (fit_apart lawS F)
  unfold ents at hD
  simp only [DataW.map.injEq] at hD
  rw [← hD] at hp
  rw [List.pairwise_map] at hp
  refine List.mergeSort_of_pairwise ?_
  rw [List.pairwise_map]
  exact hp.imp fun h => by simpa using before_le _ _ h

theorem row_cut {w : World} {a : Option Addr} {n c : Nat} {l : List UInt8} (h : w.ownsRow 0 5 1 (.slice a n c) n (Lib.byteCells l)) (k : Nat) (hk : k ≤ n) : w.ownsRow 0 5 1 (.slice a k c) k (Lib.byteCells (l.take k)) := by
  have hl : l.length = n := by have := h.1; simpa [Lib.byteCells_length] using this
  refine ⟨by rw [Lib.byteCells_length, List.length_take]; omega, ?_⟩
  rcases h.2 with ⟨h1, h2⟩ | ⟨g, cap, cur, hv, hb, hg, hn, hc, hs, ht⟩
  · simp only [Value.slice.injEq] at h1
    obtain ⟨rfl, _, rfl⟩ := h1
    have : k = 0 := by omega
    subst this
    exact .inl ⟨rfl, rfl⟩
  · simp only [Value.slice.injEq] at hv
    obtain ⟨rfl, _, rfl⟩ := hv
    refine .inr ⟨g, _, cur, rfl, hb, hg, by omega, hc, hs, ?_⟩
    have : (Lib.byteCells l).take k = Lib.byteCells (l.take k) := by simp [Lib.byteCells, List.map_take]
    rw [← this, ← ht, List.take_take]
    congr 1
    omega

theorem own_blk (a : Option Addr) (n c n' c' : Nat) : (Value.slice a n c).ownBlock = (Value.slice a n' c').ownBlock := by cases a <;> rfl
def stays (f : F) (k : Int) : Nat := f.kept + min (max k 0).toNat (f.data.length - f.kept)

def Fell (w : World) (x : Pl) (k : Int) (e : Ending) (w' : World) : Prop :=
  e = .returned (.tuple #[]) ∧ Only (fun i => i = x.blk) w w' ∧ ∃ v', FileAt w' ⟨fall x.f k, x.blk, v'⟩ ∧ v'.ownBlock = x.v.ownBlock

end Go.Proofs.Ytojlceoeacebmaa
/- The contract of Rise: by a walk of its loop over the names. -/
namespace Go.Proofs.Ytojlceoeacebmaa
open Go.RowKit Go.Maps FsPlain
set_option linter.unusedVariables false
set_option linter.unusedSimpArgs false
set_option maxRecDepth 20000

/-- A row of numbers that is only read. -/
def KeepAt (w : World) (B : Nat → Prop) (a : Option Addr) (ks : List Int) : Prop :=
  ks = [] ∨ ∃ kb ko, a = some ⟨kb, ko, none⟩ ∧ kb < w.heap.size ∧ ¬ B kb ∧ ∀ j k, ks[j]? = some k → w.cell? ⟨kb, ko + j, none⟩ = some (.int .i64 k)

structure RiseAt (p m : Nat) (s : St) (B : Nat → Prop) (ks : List Int) (w1 : World) (i : Value) (wr : World) (j : Nat) : Prop where
  ival : i = .int .i64 (j : Int)
  jle : j ≤ s.fs.length
  ok : (riseN s ks j).ok
  d : ∃ Bj L, DiskAt wr p (riseN s ks j) Bj m L ∧ ∀ b, Bj b → B b ∨ w1.heap.size ≤ b
  o : Only B w1 wr

def RiseIn (p m : Nat) (s : St) (B : Nat → Prop) (ks : List Int) (w1 : World) (i : Value) (wr : World) : Prop := ∃ j, RiseAt p m s B ks w1 i wr j

theorem bs_list (l : List UInt8) : (bs l).data.toList = l := rfl

theorem fell_next {p m : Nat} {s : St} {B : Nat → Prop} {L : List Pl} {x : Pl} {n : List UInt8} {k : Int} {w w' : World} {e : Ending} (h : DiskAt w p s B m L) (hf : L.find? (fun x => x.f.name == n) = some x) (k' : Fell w x k e w') :
    ∃ L', DiskAt w' p (s.upd n (fun f => fall f k)) (fun b => B b ∨ (w.heap.size ≤ b ∧ b < w'.heap.size)) m L' := by
  obtain ⟨_, o, v', hF, hv⟩ := k'
  exact h.put hf (x' := ⟨fall x.f k, x.blk, v'⟩) (g := fun f => fall f k) rfl rfl rfl hF (o.mono fun i e => by subst e; simp [plBlocks]) (fun i hi => .inl (by rw [← hv]; exact hi))

theorem rise_step {p m : Nat} {s : St} {B : Nat → Prop} {ks : List Int} {w1 wr w' : World} {i : Value} {j : Nat} {e : Ending} {Bj : Nat → Prop} {L : List Pl} {x : Pl} (h : RiseAt p m s B ks w1 i wr j) (hj : j < s.fs.length)
    (hD : DiskAt wr p (riseN s ks j) Bj m L) (hB : ∀ b, Bj b → B b ∨ w1.heap.size ≤ b) (hf : L.find? (fun x => x.f.name == nameAt s.fs j) = some x) (hk : Fell wr x (ks.getD j 0) e w') :
    RiseAt p m s B ks w1 (.int .i64 ((j : Int) + 1)) w' (j + 1) := by
  have hg : (riseN s ks j).get (nameAt s.fs j) = some x.f := by
    unfold St.get; rw [← hD.fs, List.find?_map]
    have : ((fun f : F => f.name == nameAt s.fs j) ∘ fun x : Pl => x.f) = fun x : Pl => x.f.name == nameAt s.fs j := rfl
    rw [this, hf]; rfl
  obtain ⟨L', hD'⟩ := fell_next hD hf hk
  refine ⟨rfl, hj, ok_fall h.ok hg _, ⟨_, L', hD', fun b hb => ?_⟩, ?_⟩
  · rcases hb with hb | hb
    · exact hB b hb
    · exact .inr (Nat.le_trans h.o.size hb.1)
  · exact h.o.andThen hk.2.1 fun b e => by
      subst e
      exact hB _ (plBlocks_B hD (List.mem_of_find?_eq_some hf) _ (by simp [plBlocks]))

end Go.Proofs.Ytojlceoeacebmaa
/- The program's disk as a part of a world: what its calls leave. -/
namespace Go.Proofs.Ytojlceoeacebmaa
open Go.RowKit Go.Maps FsPlain
set_option linter.unusedVariables false
set_option linter.unusedSimpArgs false
set_option maxRecDepth 20000
def DiskA (p : Nat) (s : St) : Asn := fun w B => Disk w p s B
theorem fr_disk (p : Nat) (s : St) : Fr (DiskA p s) := ⟨fun h o d => Disk.only h o d, fun h => Disk.low h⟩
theorem tells_does {w w' : World} {p : Nat} {s : St} {B : Nat → Prop} {v : Value} {e : Ending} (h : Tells w p s B v e w') : Does w B (DiskA p s) v e w' := by
  obtain ⟨he, B', d, o, f⟩ := h
  exact ⟨he, B', d, o, f⟩
theorem d_create (p : Nat) (s : St) (n : ByteArray) (hn : n.size ≤ 1000) (hm : rightB n.data.toList = true) (h1 : s.calls ≤ 1000000000000) (w : World) (B : Nat → Prop) (h : DiskA p s w B) :
    Calls Try.prog 10 #[.pointer (some ⟨p, 0, none⟩), .string n] w (Does w B (DiskA p (createR s n.data.toList).1) (.int .i64 (createR s n.data.toList).2)) :=
  (create_c p s B n w h (by unfold maxLen; omega) hm h1).mono fun _ _ => tells_does
theorem d_append (p : Nat) (s : St) (n t : ByteArray) (hn : n.size ≤ 1000) (hm : rightB n.data.toList = true) (h1 : s.calls ≤ 1000000000000) (ht : t.size ≤ 1000000000) (w : World) (B : Nat → Prop) (h : DiskA p s w B) :
    Calls Try.prog 11 #[.pointer (some ⟨p, 0, none⟩), .string n, .string t] w (Does w B (DiskA p (appendR s n.data.toList t.data.toList).1) (.int .i64 (appendR s n.data.toList t.data.toList).2)) :=
  (append_c p s B n t w h (by unfold maxLen; omega) hm h1 (by omega)).mono fun _ _ => tells_does
theorem d_size (p : Nat) (s : St) (n : ByteArray) (hn : n.size ≤ 1000) (hm : rightB n.data.toList = true) (h1 : s.calls ≤ 1000000000000) (w : World) (B : Nat → Prop) (h : DiskA p s w B) :
    Calls Try.prog 55 #[.pointer (some ⟨p, 0, none⟩), .string n] w (Does w B (DiskA p s.call) (.tuple #[.int .i64 (sizeR s n.data.toList).1, .int .i64 (sizeR s n.data.toList).2])) :=
  (size_c p s B n w h (by unfold maxLen; omega) hm h1).mono fun _ _ => tells_does
theorem d_read (p : Nat) (s : St) (n : ByteArray) (i k : Nat) (hn : n.size ≤ 1000) (hm : rightB n.data.toList = true) (h1 : s.calls ≤ 1000000000000) (hi : i ≤ 1000000000) (hk : k ≤ 1000000000) (w : World) (B : Nat → Prop) (h : DiskA p s w B) :
    Calls Try.prog 64 #[.pointer (some ⟨p, 0, none⟩), .string n, .int .i64 (i : Int), .int .i64 (k : Int)] w (Does w B (DiskA p s.call) (.tuple #[.string (bs (readR s n.data.toList i k).1), .int .i64 (readR s n.data.toList i k).2])) :=
  (read_c p s B n i k w h (by unfold maxLen; omega) hm h1 (by omega) (by omega)).mono fun _ _ => tells_does
end Go.Proofs.Ytojlceoeacebmaa
/- The program's reader: where its bytes come from (look, pass); its parts. -/
namespace Go.Proofs.Ytojlceoeacebmaa
open Go.RowKit FsPlain CrcPlain OctPlain FramePlain RecPlain RdPlain
set_option linter.unusedVariables false
set_option linter.unusedSimpArgs false
set_option maxRecDepth 20000
/-- The four cells of where bytes come from. -/
structure IsSrc (c : Array Value) (D : Nat) (nm : ByteArray) (pos left : Nat) : Prop where
  c0 : c[0]? = some (.pointer (some ⟨D, 0, none⟩))
  c1 : c[1]? = some (.string nm)
  c2 : c[2]? = some (.int .i64 (pos : Nat))
  c3 : c[3]? = some (.int .i64 (left : Nat))
theorem frs_sd (q D : Nat) (c : Array Value) (T : TypeId) (s : St) : Frs [Blk q c T, DiskA D s] := ⟨fr_blk _ _ _, fr_disk _ _, trivial⟩
theorem sd_blk {q D : Nat} {c : Array Value} {T : TypeId} {s : St} {w : World} {B : Nat → Prop} (h : stars [Blk q c T, DiskA D s] w B) : w.heap[q]? = some (.cells c T (0, 0)) := by
  obtain ⟨_, h, _⟩ := part_at 0 rfl h
  exact h.1
/-- The four cells as a world has them. -/
def SrcAt (q D : Nat) (nm : ByteArray) (pos left : Nat) (w : World) : Prop := w.cell? ⟨q, 0, none⟩ = some (.pointer (some ⟨D, 0, none⟩)) ∧ w.cell? ⟨q, 1, none⟩ = some (.string nm) ∧ w.cell? ⟨q, 2, none⟩ = some (.int .i64 (pos : Nat)) ∧ w.cell? ⟨q, 3, none⟩ = some (.int .i64 (left : Nat))
theorem src_at {q D : Nat} {c : Array Value} {T : TypeId} {nm : ByteArray} {pos left : Nat} {w : World} (hc : IsSrc c D nm pos left) (hb : w.heap[q]? = some (.cells c T (0, 0))) : SrcAt q D nm pos left w :=
  ⟨by rw [cells_at hb, hc.c0], by rw [cells_at hb, hc.c1], by rw [cells_at hb, hc.c2], by rw [cells_at hb, hc.c3]⟩
set_option maxHeartbeats 2000000 in
theorem src_look (q D : Nat) (c : Array Value) (T : TypeId) (s : St) (nm : ByteArray) (pos left n : Nat) (hc : IsSrc c D nm pos left) (hn : nm.size ≤ 24) (hm : rightB nm.data.toList = true) (hk : s.calls ≤ 1000000000000) (hp : pos + left ≤ 16777216) (hnn : n ≤ 1000000) (w : World) (B : Nat → Prop) (h : stars [Blk q c T, DiskA D s] w B) :
    Calls Try.prog 56 #[.pointer (some ⟨q, 0, none⟩), .int .i64 (n : Nat)] w (Does w B (stars [Blk q c T, DiskA D s.call]) (.tuple #[.string (bs (readR s nm.data.toList pos (min n left)).1), .int .i64 (readR s nm.data.toList pos (min n left)).2])) := by
  obtain ⟨t, ht⟩ : ∃ t, t = bs (readR s nm.data.toList pos (min n left)).1 := ⟨_, rfl⟩
  obtain ⟨er, her⟩ : ∃ er, er = (readR s nm.data.toList pos (min n left)).2 := ⟨_, rfl⟩
  obtain ⟨ak, hak⟩ : ∃ ak, ak = min n left := ⟨_, rfl⟩
  have K0 : ∀ u, Gr w u → SrcAt q D nm pos left u := fun u g => src_at hc (sd_blk (stars_gr (frs_sd _ _ _ _ _) h g))
  have CR : ∀ u, Gr w u → Calls Try.prog 64 #[.pointer (some ⟨D, 0, none⟩), .string nm, .int .i64 (pos : Nat), .int .i64 (ak : Nat)] u fun e w' => e = .returned (.tuple #[.string t, .int .i64 er]) ∧ (∃ B', stars [Blk q c T, DiskA D s.call] w' B' ∧ Nx B w B' w') ∧ SrcAt q D nm pos left w' := fun u g => by
    rw [ht, her, hak]
    have C := does_at (f := 64) (Q := DiskA D s.call) 1 rfl (frs_sd _ _ _ _ _) (stars_gr (frs_sd _ _ _ _ _) h g) fun B2 h2 => d_read D s nm pos (min n left) (by omega) hm hk (by omega) (by omega) u B2 h2
    refine C.mono ?_
    rintro e w' ⟨he, B', h', n'⟩
    exact ⟨he, ⟨B', h', (Nx.gr g).trans n'⟩, src_at hc (sd_blk h')⟩
  rw [← ht, ← her]
  have ai : min (n : Int) (left : Int) = (ak : Nat) := by omega
  have hmin : min (n : Int) (left : Int) = n ∨ min (n : Int) (left : Int) = left := by omega
  have hk2 : (ak : Int) ≤ 1000000000 := by omega
  have KS := Lib.hid K0
  have CRH := Lib.hid CR
  have gU := Gr.refl w
  have gUd : Gr w w.drew := Below.drew gU
  clear h K0 CR ht her hak hc hn hm hk
  go_enter Try.func56, Try.ntmps56
  go_wp2_with fail
  go_region_held3 (fun w' => w'.cell? ⟨q, 0, none⟩ = some (.pointer (some ⟨D, 0, none⟩)) ∧ w'.cell? ⟨q, 1, none⟩ = some (.string nm) ∧ w'.cell? ⟨q, 2, none⟩ = some (.int .i64 (pos : Nat)) ∧ w'.cell? ⟨q, 3, none⟩ = some (.int .i64 (left : Nat))) (first | exact KS.out _ gUd | exact KS.out _ (by assumption) | assumption | go_keep)
    ((go_at_call 64; refine (CRH.out _ (by assumption)).mono ?_; rintro e t2 ⟨rfl, hst, hks⟩))
  obtain ⟨B2, h2, n2⟩ := hst
  have H2 := Lib.hid h2
  have N2 := Lib.hid n2
  clear h2 n2 hks
  go_wp2_with fail
  go_ret2
  exact ⟨rfl, B2, H2.out, N2.out⟩
set_option maxHeartbeats 2000000 in
theorem src_pass (q : Nat) (c c' : Array Value) (T : TypeId) (pos left n pos' left' : Nat) (h2 : c[2]? = some (.int .i64 (pos : Nat))) (h3 : c[3]? = some (.int .i64 (left : Nat))) (hp : pos' = pos + n) (hl : left = left' + n) (hb : pos + left ≤ 16777216) (hc' : (c.setIfInBounds 2 (.int .i64 (pos' : Nat))).setIfInBounds 3 (.int .i64 (left' : Nat)) = c') (w : World) (B : Nat → Prop) (h : Blk q c T w B) :
    Calls Try.prog 58 #[.pointer (some ⟨q, 0, none⟩), .int .i64 (n : Nat)] w (Does w B (Blk q c' T) (.tuple #[])) := by
  have c2 : w.cell? ⟨q, 2, none⟩ = some (.int .i64 (pos : Nat)) := by rw [cells_at h.1, h2]
  have f2 := cells_free h.1 2
  have e1 : (pos : Int) + n = (pos' : Nat) := by omega
  have e2 : (left : Int) - n = (left' : Nat) := by omega
  have b1 : (pos' : Int) ≤ 16777216 := by omega
  have b2 : (left' : Int) ≤ 16777216 := by omega
  have c3 : w.cell? ⟨q, 3, none⟩ = some (.int .i64 (left : Nat)) := by rw [cells_at h.1, h3]
  have f3 := cells_free h.1 3
  obtain ⟨B1, k1, n1⟩ := blk_next (i := 2) h (.int .i64 (pos' : Nat))
  obtain ⟨B2, k2, n2⟩ := blk_next (i := 3) k1 (.int .i64 (left' : Nat))
  rw [hc'] at k2
  have K2 := Lib.hid k2
  have N2 := Lib.hid (n1.trans n2)
  clear h h2 h3 k1 k2 n1 n2 hp hl hb hc'
  go_enter Try.func58, Try.ntmps58
  go_wp2_with fail
  go_end0
  exact ⟨rfl, B2, K2.out, N2.out⟩
/-! The reader. -/
/-- An open one's cells: k is the sum so far, t whether the end was told. -/
def rdc (D P : Nat) (y : Rs) (vq : Value) (k : Nat) (t : Bool) : Array Value := #[.pointer (some ⟨D, 0, none⟩), .string y.nm, .int .i64 (y.pos : Nat), .int .i64 (y.left : Nat), .pointer (some ⟨P, 0, none⟩), .int .i64 y.size, vq, .bool y.short, .int .i64 (y.told : Nat), .int .u32 (k : Nat), .bool t]
/-- Those of one that is shut. -/
def rdshut (n k : Nat) (t : Bool) : Array Value := #[.pointer none, .string ⟨#[]⟩, .int .i64 0, .int .i64 0, .pointer none, .int .i64 0, .slice none 0 0, .bool false, .int .i64 (n : Nat), .int .u32 (k : Nat), .bool t]
/-- The four parts. -/
def rol (x D P : Nat) (s : St) (b : Bu) (c : Array Value) (vq : Value) (queue : List ByteArray) : List Asn := [Blk x c 54, DiskA D s, QueA vq queue, BuA P b]
theorem frs_rol (x D P : Nat) (s : St) (b : Bu) (c : Array Value) (vq : Value) (queue : List ByteArray) : Frs (rol x D P s b c vq queue) := ⟨fr_blk _ _ _, fr_disk _ _, fr_que _ _, fr_bu _ _, trivial⟩
theorem rol_blk {x D P : Nat} {s : St} {b : Bu} {c : Array Value} {vq : Value} {queue : List ByteArray} {w : World} {B : Nat → Prop} (h : stars (rol x D P s b c vq queue) w B) : w.heap[x]? = some (.cells c 54 (0, 0)) := by
  obtain ⟨_, h, _⟩ := part_at 0 rfl h
  exact h.1
theorem rol_set {x D P : Nat} {s : St} {b : Bu} {c c' : Array Value} {vq : Value} {queue : List ByteArray} {w : World} {B : Nat → Prop} (i : Nat) (u : Value) (h : stars (rol x D P s b c vq queue) w B) (hc : c.setIfInBounds i u = c') :
    ∃ B', stars (rol x D P s b c' vq queue) (w.setCell ⟨x, i, none⟩ u) B' ∧ Nx B w B' (w.setCell ⟨x, i, none⟩ u) :=
  step_at (Q := Blk x c' 54) 0 rfl (frs_rol _ _ _ _ _ _ _ _) h fun B1 h1 => by rw [← hc]; exact blk_next h1 u
/-- Without its queue. -/
theorem rol_none {x D P : Nat} {s : St} {b : Bu} {c : Array Value} {vq : Value} {queue : List ByteArray} {w : World} {B : Nat → Prop} (h : stars (rol x D P s b c vq queue) w B) :
    ∃ B', stars (rol x D P s b c (.slice none 0 0) []) w B' ∧ Nx B w B' w :=
  step_at (Q := QueA (.slice none 0 0) []) 2 rfl (frs_rol _ _ _ _ _ _ _ _) h fun B1 h1 => ⟨_, que_nil w, Only.refl _ _, fun b hb => hb.elim⟩
theorem src_rdc (D P : Nat) (y : Rs) (vq : Value) (k : Nat) (t : Bool) : IsSrc (rdc D P y vq k t) D y.nm y.pos y.left := ⟨rfl, rfl, rfl, rfl⟩
/-- An open reader, its disk, its budget: whether the end was told. -/
def RO (x D P : Nat) (m : N3) (t : Bool) : Asn := fun w B => ∃ vq, stars (rol x D P m.s m.b (rdc D P m.x vq (sumN m.x.all) t) vq m.x.queue) w B
theorem fr_ro (x D P : Nat) (m : N3) (t : Bool) : Fr (RO x D P m t) := ⟨fun ⟨vq, h⟩ o d => ⟨vq, (fr_stars (frs_rol _ _ _ _ _ _ _ _)).fr h o d⟩, fun ⟨vq, h⟩ => (fr_stars (frs_rol _ _ _ _ _ _ _ _)).lo h⟩
/-- One that is shut, beside them. -/
def RSh (x D P : Nat) (s : St) (b : Bu) (n k : Nat) (t : Bool) : Asn := stars (rol x D P s b (rdshut n k t) (.slice none 0 0) [])
/-- The program's reader, its disk, its budget. -/
def RP3 (x D P : Nat) (m : N3) : Asn := fun w B => (m.x.opn = true ∧ RO x D P m false w B) ∨ (m.x.opn = false ∧ RSh x D P m.s m.b m.x.told (sumN m.x.all) m.x.whole w B)
theorem fr_rp3 (x D P : Nat) (m : N3) : Fr (RP3 x D P m) where
  fr := fun h o d => h.imp (fun h => ⟨h.1, (fr_ro _ _ _ _ _).fr h.2 o d⟩) fun h => ⟨h.1, (fr_stars (frs_rol _ _ _ _ _ _ _ _)).fr h.2 o d⟩
  lo := fun h => h.elim (fun h => (fr_ro _ _ _ _ _).lo h.2) fun h => (fr_stars (frs_rol _ _ _ _ _ _ _ _)).lo h.2
theorem rp3_open {x D P : Nat} {m : N3} {w : World} {B : Nat → Prop} (ho : m.x.opn = true) (h : RP3 x D P m w B) : RO x D P m false w B := by
  rcases h with ⟨_, h⟩ | ⟨h1, _⟩
  · exact h
  · rw [ho] at h1; cases h1
theorem rp3_shut {x D P : Nat} {m : N3} {w : World} {B : Nat → Prop} (ho : m.x.opn = false) (h : RP3 x D P m w B) : RSh x D P m.s m.b m.x.told (sumN m.x.all) m.x.whole w B := by
  rcases h with ⟨h1, _⟩ | ⟨_, h⟩
  · rw [ho] at h1; cases h1
  · exact h
end Go.Proofs.Ytojlceoeacebmaa
/- Contracts of both Sums. -/
namespace Go.Proofs.Ytojlceoeacebmaa
open Go.RowKit CrcPlain OctPlain FramePlain RecPlain
set_option linter.unusedVariables false
set_option linter.unusedSimpArgs false
set_option maxRecDepth 20000
theorem blk_at {w : World} {b : Nat} {c : Array Value} {T : TypeId} (h : w.heap[b]? = some (.cells c T (0, 0))) (i : Nat) : w.cell? ⟨b, i, none⟩ = c[i]? := by simp [World.cell?, h]
theorem blk_free {w : World} {b : Nat} {c : Array Value} {T : TypeId} (h : w.heap[b]? = some (.cells c T (0, 0))) (i : Nat) : w.frozen? ⟨b, i, none⟩ = false := by simp [World.frozen?, h]
theorem blk_lt {w : World} {b : Nat} {o : Obj} (h : w.heap[b]? = some o) : b < w.heap.size := (Array.getElem?_eq_some_iff.1 h).1
theorem blk_set {w : World} {b : Nat} {c : Array Value} {T : TypeId} (h : w.heap[b]? = some (.cells c T (0, 0))) (i : Nat) (u : Value) : (w.setCell ⟨b, i, none⟩ u).heap[b]? = some (.cells (c.setIfInBounds i u) T (0, 0)) := by
  obtain ⟨hlt, hb⟩ := Array.getElem?_eq_some_iff.1 h
  simp only [World.setCell, Array.getElem?_modify, if_true, h]
  rfl
theorem blk_gr {w u : World} {b : Nat} {o : Obj} (h : w.heap[b]? = some o) (g : Gr w u) : u.heap[b]? = some o := (g.block b (blk_lt h)).trans h
theorem blk_other {w : World} {b : Nat} {o : Obj} (h : w.heap[b]? = some o) (a : Addr) (u : Value) (hne : a.block ≠ b) : (w.setCell a u).heap[b]? = some o := by
  rw [Below.heap_setCell _ _ _ _ (fun e => hne e.symm)]; exact h
theorem sumN_nil : sumN [] = 0 := by decide
theorem sumN_snoc (l : List ByteArray) (x : ByteArray) : sumN (l ++ [x]) = more (sumN l) x.data.toList := by
  unfold sumN; rw [cat_snoc, more_app]
theorem two_blks (w : World) (o p : Obj) : ((w.alloc o).alloc p).heap[w.heap.size]? = some o ∧ ((w.alloc o).alloc p).heap[w.heap.size + 1]? = some p ∧ Below w.heap.size w ((w.alloc o).alloc p) := by
  refine ⟨(Below.heap_alloc _ _ _ (by simp)).trans (heap_alloc_new w _), ?_, ((Gr.refl w).alloc (Nat.le_refl _) _).alloc (by simp) _⟩
  have := heap_alloc_new (w.alloc o) p
  rwa [World.size_alloc] at this
def SumAt (L : List ByteArray) (n : Nat) (w : World) (i : Value) (wr : World) : Prop :=
  ∃ j : Nat, j ≤ n ∧ i = .int .i64 j ∧ wr.heap[w.heap.size]? = some (.cells #[.int .i64 0, .int .u32 0] 35 (0, 0)) ∧ wr.heap[w.heap.size + 1]? = some (.cells #[.int .i64 n, .int .u32 (sumN (L.take j) : Nat)] 35 (0, 0)) ∧ Below w.heap.size w wr
/-- What both Sums come to. -/
def SumGot (L : List ByteArray) (w : World) (e : Ending) (w' : World) : Prop := e = .returned (.agg #[.int .i64 (L.length : Nat), .int .u32 (sumN L : Nat)]) ∧ Gr w w'
theorem sum_start (L : List ByteArray) (n : Nat) (w : World) : SumAt L n w (.int .i64 0) ((w.alloc (.cells #[.int .i64 0, .int .u32 0] 35)).alloc (.cells #[.int .i64 n, .int .u32 0] 35)) := by
  obtain ⟨h1, h2, h3⟩ := two_blks w (.cells #[.int .i64 0, .int .u32 0] 35) (.cells #[.int .i64 n, .int .u32 0] 35)
  refine ⟨0, Nat.zero_le _, rfl, h1, ?_, h3⟩
  rw [List.take_zero, sumN_nil]; exact h2
/-- Behind the store of a further sum. -/
theorem sum_next {L : List ByteArray} {n j : Nat} {w wr u : World} (hj : j < n) (r0 : wr.heap[w.heap.size]? = some (.cells #[.int .i64 0, .int .u32 0] 35 (0, 0)))
    (r1 : wr.heap[w.heap.size + 1]? = some (.cells #[.int .i64 n, .int .u32 (sumN (L.take j) : Nat)] 35 (0, 0))) (hb : Below w.heap.size w wr) (g : Gr wr u) (m : Nat) (hm : m = sumN (L.take (j + 1))) :
    SumAt L n w (.int .i64 ((j : Int) + 1)) (u.setCell ⟨w.heap.size + 1, 1, none⟩ (.int .u32 (m : Nat))) := by
  subst hm
  refine ⟨j + 1, hj, rfl, blk_other (blk_gr r0 g) _ _ (by simp), by simpa using blk_set (blk_gr r1 g) 1 (.int .u32 (sumN (L.take (j + 1)) : Nat)), ?_⟩
  exact ((Gr.of hb).trans g).setCell (p := ⟨w.heap.size + 1, 1, none⟩) (by simp) _
set_option maxRecDepth 20000 in
set_option maxHeartbeats 2000000 in
theorem rsum_c {w : World} {v : Value} {L : List ByteArray} (h : Lies w v L) (hl : L.length ≤ 1000000) (hz : ∀ s ∈ L, s.size ≤ 1000) :
    Calls Try.prog 25 #[v] w (SumGot L w) := by
  obtain ⟨a, c, rfl, hc, h⟩ := h
  obtain ⟨n, hn⟩ : ∃ n, L.length = n := ⟨_, rfl⟩
  have HN := Lib.hid hn
  have H0 : 1 ≤ n → ∃ b off, a = some ⟨b, off, none⟩ ∧ SRow w b off L := fun h1 => h.elim (fun h0 => by rw [h0] at hn; simp at hn; omega) id
  have H := Lib.hid H0
  have HZ := Lib.hid hz
  have hst := sum_start L n w
  rw [hn] at hl ⊢
  clear h hc hn H0 hz
  go_enter Try.func25, Try.ntmps25
  go_wp2_with fail
  go_loopw [4] (fun i wr => SumAt L n w i wr) (fun i _ => n - (intOf i).toNat)
  case atStart => exact hst
  case round =>
    clear hst
    obtain ⟨j, hj, rfl, r0, r1, hb⟩ := hrel
    have hln := HN.out
    by_cases hlt : j < n
    · obtain ⟨x, hx, hstep, hmem⟩ := take_at (l := L) (j := j) (by omega)
      obtain ⟨b, off, rfl, hr⟩ := H.out (by omega)
      have hcx : wr.cell? ⟨b, off + j, none⟩ = some (.string x) := by rw [hb.cell hr.1]; exact hr.2 j x hx
      have M := fun w => rmore_c (sumN (L.take j)) (sumN_lt _) x (HZ.out x hmem) w
      have hs := sumN_snoc (L.take j) x
      rw [← hstep] at hs
      have HS := Lib.hid hs.symm
      have c1 : wr.cell? ⟨w.heap.size + 1, 1, none⟩ = some (.int .u32 (sumN (L.take j) : Nat)) := by rw [blk_at r1]; rfl
      have hk : ∀ u, Gr wr u → u.cell? ⟨w.heap.size + 1, 1, none⟩ = some (.int .u32 (sumN (L.take j) : Nat)) ∧ u.frozen? ⟨w.heap.size + 1, 1, none⟩ = false :=
        fun u g => ⟨by rw [blk_at (blk_gr r1 g)]; rfl, blk_free (blk_gr r1 g) 1⟩
      have HK := Lib.hid hk
      have R0 := Lib.hid r0
      have R1 := Lib.hid r1
      have hbs0 : ∀ u, Gr wr u → ∀ m : Nat, m = sumN (L.take (j + 1)) → SumAt L n w (.int .i64 ((j : Int) + 1)) (u.setCell ⟨w.heap.size + 1, 1, none⟩ (.int .u32 (m : Nat))) := fun u g m hm => sum_next hlt r0 r1 hb g m hm
      have hbs := Lib.hid hbs0
      obtain ⟨m, hm⟩ : ∃ m, m = more (sumN (L.take j)) x.data.toList := ⟨_, rfl⟩
      rw [← hm] at M HS
      have HM := Lib.hid hm
      have MM := Lib.hid (fun w => (M w).mono fun e w' h => (show e = .returned (.int .u32 (m : Nat)) ∧ w' = w from ⟨h.1, h.2.symm⟩))
      have hl2 : (n : Int) ≤ 1000000 := by omega
      clear hm hs hbs0 hstep hmem hx hk r0 r1 hr H HZ M hl
      go_wp2_with fail
      obtain ⟨d1, f1⟩ := HK.out wr (Gr.refl _)
      refine wp_region_still_tail 8 (by kernel_rfl) (by kernel_rfl) ?_
      simp only [List.take_succ_cons, List.take_zero, List.drop_succ_cons, List.drop_zero]
      still_step
      still_step
      still_step
      still_step
      still_step
      still_step
      still_call (MM.out wr.drew)
      still_step
      refine wpStill_nil ?_
      change wpList _ _ _ _ _ wr.drew
      have f2 : wr.drew.frozen? ⟨w.heap.size + 1, 1, none⟩ = false := f1
      have d2 : wr.drew.cell? ⟨w.heap.size + 1, 1, none⟩ = some (.int .u32 (sumN (L.take j) : Nat)) := d1
      go_wp2_with fail
      refine ⟨hbs.out wr.drew (Gr.refl wr).drew m HS.out, ?_⟩
      simp [intOf]; omega
    · obtain rfl : j = n := by omega
      have hte : L.take j = L := List.take_of_length_le (by omega)
      rw [hte] at r1
      obtain ⟨m, hm⟩ : ∃ m, m = sumN L := ⟨_, rfl⟩
      rw [← hm] at r1
      have hw : Two w w.heap.size (.int .i64 0) (.int .u32 0) wr := ⟨blk_lt r0, by rw [blk_at r0]; rfl, by rw [blk_at r0]; rfl, blk_free r0 0, blk_free r0 1⟩
      obtain ⟨W, hW, d0, d1, gW⟩ := two_set hw (.int .i64 (j : Nat)) (.int .u32 (m : Nat)) (Gr.of hb) (Nat.le_refl _)
      have e0 : wr.cell? ⟨w.heap.size + 1, 0, none⟩ = some (.int .i64 (j : Nat)) := by rw [blk_at r1]; rfl
      have e1 : wr.cell? ⟨w.heap.size + 1, 1, none⟩ = some (.int .u32 (m : Nat)) := by rw [blk_at r1]; rfl
      obtain ⟨hlt2, c0, c1, f0, f1⟩ := hw
      have HW := Lib.hid hW
      have HM := Lib.hid hm
      clear hW r0 r1 hm hte H HZ
      go_wp2_with fail
      rw [← HW.out]
      exact bodyPost_ret (v := .agg #[.int .i64 (j : Nat), .int .u32 (m : Nat)]) (by simp [results, Try.results25, go_sem, d0, d1]) rfl ⟨by rw [hln, HM.out], gW⟩
end Go.Proofs.Ytojlceoeacebmaa
