/- In one text: ScWh4, Que, Rd1, Rd2. -/
import Derived.Test.YtignfbdgpgidpaaGreatDoorW29
import Derived.Test.YtignfbdgpgidpaaGreatDoorW20
import Derived.Test.YtignfbdgpgidpaaGreatDoorW22
import Derived.Test.YtignfbdgpgidpaaGreatDoorW06
import Derived.Test.YtignfbdgpgidpaaGreatDoorW21
import Derived.Deep.RegionHeld3
import Derived.Test.YtignfbdgpgidpaaGreatDoorW12
import Derived.StillTailTactics
/- The numbers of ScanWhole. -/
namespace Go.Proofs.YtignfbdgpgidpaaGreatDoor
open Go.RowKit FsPlain CrcPlain OctPlain FramePlain RecPlain CmPlain
set_option linter.unusedVariables false
set_option linter.unusedSimpArgs false
set_option maxRecDepth 20000
theorem small_mul {a b x y : Nat} (h : a ≤ x) (k : b ≤ y) : a * b ≤ x * y := Nat.mul_le_mul h k
structure WhNum (n len at_ bits k m A Bm F E fr : Nat) : Prop where
  kE : (at_ : Int) % (((len : Int) + 3) / 4) = (k : Int)
  mE : min (4 : Int) ((len : Int) - 4 * (k : Int)) = (m : Int)
  aE : (k : Int) * (5 + 4 * (n : Int)) = (A : Int)
  bE : (m : Int) * (n : Int) = (Bm : Int)
  k4 : k ≤ 4
  m4 : 1 ≤ m ∧ m ≤ 4
  km : 4 * k + m ≤ len
  aM : A ≤ 1044
  bM : Bm ≤ 256
  fE : F = 96 + 8 * A
  eE : E = 128 + 8 * A + 8 * Bm
  frI : ((bits / 256 : Nat) : Int) % ((E : Int) - (F : Int)) = ((fr - F : Nat) : Int)
  frF : F ≤ fr
  frE : fr < E
  eT : E ≤ 8 * (28 + 5 * ((len + 3) / 4) + len * n)
  k' : whK len at_ = k
  m' : whMany len k = m
  f' : whFirst n k = F
  e' : whEnd n k m = E
  fr' : whFrom F E bits = fr
theorem wh_nums {n len : Nat} (h1 : 1 ≤ n) (h2 : n ≤ 64) (h3 : 1 ≤ len) (h4 : len ≤ 20) (at_ bits : Nat) : ∃ k m A Bm E F fr : Nat, WhNum n len at_ bits k m A Bm F E fr := by
  obtain ⟨q, hq⟩ : ∃ q, (len + 3) / 4 = q := ⟨_, rfl⟩
  have q1 : 1 ≤ q := by omega
  obtain ⟨k, hk⟩ : ∃ k, at_ % q = k := ⟨_, rfl⟩
  have hkq : k < q := by rw [← hk]; exact Nat.mod_lt _ q1
  obtain ⟨m, hm⟩ : ∃ m, min 4 (len - 4 * k) = m := ⟨_, rfl⟩
  have k4 : k ≤ 4 := by omega
  have m4 : 1 ≤ m ∧ m ≤ 4 := by omega
  have km : 4 * k + m ≤ len := by omega
  obtain ⟨A, hA⟩ : ∃ A, k * (5 + 4 * n) = A := ⟨_, rfl⟩
  obtain ⟨B, hB⟩ : ∃ B, m * n = B := ⟨_, rfl⟩
  have aM : A ≤ 1044 := by rw [← hA]; exact small_mul (x := 4) (y := 261) k4 (by omega)
  have bM : B ≤ 256 := by rw [← hB]; exact small_mul (x := 4) (y := 64) m4.2 h2
  have hT : A + 5 + B ≤ 5 * q + len * n := by
    have e1 : A = 5 * k + (4 * k) * n := by rw [← hA, Nat.mul_add, Nat.mul_comm k 5, Nat.mul_left_comm k 4 n, Nat.mul_assoc]
    have e2 : (4 * k + m) * n ≤ len * n := Nat.mul_le_mul_right _ km
    rw [Nat.add_mul, hB] at e2
    omega
  obtain ⟨g, hg⟩ : ∃ g, (bits / 256) % (32 + 8 * B) = g := ⟨_, rfl⟩
  have hgl : g < 32 + 8 * B := by rw [← hg]; exact Nat.mod_lt _ (by omega)
  have f' : whFirst n k = 96 + 8 * A := by unfold whFirst; rw [hA]; omega
  have e' : whEnd n k m = 128 + 8 * A + 8 * B := by unfold whEnd; rw [hA, hB]; omega
  refine ⟨k, m, A, B, 128 + 8 * A + 8 * B, 96 + 8 * A, 96 + 8 * A + g, ?_, ?_, ?_, ?_, k4, m4, km, aM, bM, rfl, rfl, ?_, by omega, by omega, ?_, ?_, hm, f', e', ?_⟩
  · rw [show ((len : Int) + 3) / 4 = (q : Int) by omega, ← hk]; exact (Int.natCast_emod _ _).symm
  · omega
  · rw [← hA]; simp
  · rw [← hB]; simp
  · rw [show ((128 + 8 * A + 8 * B : Nat) : Int) - ((96 + 8 * A : Nat) : Int) = ((32 + 8 * B : Nat) : Int) by omega, show 96 + 8 * A + g - (96 + 8 * A) = g by omega, ← hg]
    exact (Int.natCast_emod _ _).symm
  · rw [hq]; omega
  · unfold whK; rw [hq]; exact hk
  · unfold whFrom
    rw [show 128 + 8 * A + 8 * B - (96 + 8 * A) = 32 + 8 * B by omega, hg]
theorem w3_blk {p q d : Nat} {s t : St} {b : Bu} {M : List Asn} {w u v : World} (h : W3 p q d s b t M w u) (c : Array Value) (T : TypeId) (hv : v = u.alloc (.cells c T)) : W3 p q d s b t (Blk u.heap.size c T :: M) w v :=
  Qs.perm (Qs.blk_new h c T hv) (List.perm_middle (l₁ := [DiskA p s, BuA q b, RDiskA d t])).symm
theorem fl_cells22 {u : World} {q : Nat} {a b c e : Value} {T : TypeId} (h : u.heap[q]? = some (.cells #[a, b, c, e] T (0, 0))) : u.cell? ⟨q, 0, none⟩ = some a ∧ u.cell? ⟨q, 1, none⟩ = some b ∧ u.cell? ⟨q, 2, none⟩ = some c ∧ u.cell? ⟨q, 3, none⟩ = some e :=
  ⟨by rw [cells_at h]; rfl, by rw [cells_at h]; rfl, by rw [cells_at h]; rfl, by rw [cells_at h]; rfl⟩
theorem inf_cells22 {u : World} {q : Nat} {a b : Value} {T : TypeId} (h : u.heap[q]? = some (.cells #[a, b] T (0, 0))) : u.cell? ⟨q, 0, none⟩ = some a ∧ u.cell? ⟨q, 1, none⟩ = some b :=
  ⟨by rw [cells_at h]; rfl, by rw [cells_at h]; rfl⟩
theorem whole_size {D : List UInt8} {size count sum : Int} (h : sizeB size = false) : ¬ WholeB D size count sum := fun ⟨L, hL, _⟩ => by
  have := hL.1
  unfold layB at this
  rw [h] at this
  cases this
theorem bool_no {r : Bool} {P : Prop} (h : r = true ↔ P) (k : ¬ P) : r = false := by
  cases r
  · rfl
  · exact absurd (h.1 rfl) k
theorem bool_same {r r' : Bool} {P : Prop} (h : r = true ↔ P) (k : r' = true ↔ P) : r = r' := by
  cases r <;> cases r' <;> simp at h k <;> first | rfl | exact absurd k h | exact absurd h k
theorem wh_size {n : Nat} {L : List ByteArray} (h : layB n L = true) (h2 : n ≤ 64) (h3 : L.length ≤ 20) : (layR n L).size ≤ 3000 := by
  have h4 := lay_size h
  have h5 : L.length * n ≤ 20 * 64 := Nat.mul_le_mul h3 h2
  have h6 : (L.length : Int) * (n : Int) = ((L.length * n : Nat) : Int) := (Int.natCast_mul _ _).symm
  rw [h6] at h4
  omega
theorem wh_off {n : Nat} {L : List ByteArray} {at_ bits k m A Bm F E fr : Nat} (N : WhNum n L.length at_ bits k m A Bm F E fr) (hB : layB n L = true) (hL : 1 ≤ L.length) {J : Nat} {l' : List UInt8} (ht : Turn (layL n L) l' fr (bits % 2 ^ J)) (hJ : fr + J ≤ E) (hJ32 : J ≤ 32) (h0 : bits % 2 ^ J ≠ 0) (M : List ByteArray) : ¬ IsFile n (bs l') M := by
  refine wh_turned (at_ := at_) hB hL ?_ ?_ hJ32 h0 M
  · rw [N.k', N.m', N.f', N.e', N.fr']; exact ht
  · rw [N.k', N.m', N.f', N.e', N.fr']; exact hJ
def WhAt (p q d : Nat) (b : Bu) (t : St) (M : List Asn) (S T : List UInt8) (fr E bits : Nat) (K : Int) (w : World) (v1 v2 : Value) (wr : World) : Prop :=
  ∃ (j : Nat) (s : St) (l' : List UInt8) (sm : Bool), j ≤ 32 ∧ fr + j ≤ E ∧ v1 = .bool sm ∧ v2 = .int .i64 (j : Int) ∧ W3 p q d s b t M w wr ∧ Wd s S l' K ∧ Turn T l' fr (bits % 2 ^ j) ∧ (sm = true ↔ bits % 2 ^ j ≠ 0)
theorem wh_last {n : Nat} {L : List ByteArray} {at_ bits k m A Bm F E fr : Nat} (N : WhNum n L.length at_ bits k m A Bm F E fr) (hB : layB n L = true) (hL : 1 ≤ L.length) {J : Nat} {l' : List UInt8} (ht : Turn (layL n L) l' fr (bits % 2 ^ J)) (hJ : fr + J ≤ E) (hJ32 : J ≤ 32) {sm r : Bool} (hs : sm = true ↔ bits % 2 ^ J ≠ 0) (hr : r = true ↔ WholeB l' n L.length (sumN L)) : r = !sm := by
  by_cases h0 : bits % 2 ^ J = 0
  · have e1 : sm = false := by
      cases sm
      · rfl
      · exact absurd h0 (hs.1 rfl)
    rw [h0] at ht
    have e2 := ht.zero
    have : r = true := hr.2 ⟨L, ⟨hB, by rw [bs_data]; exact e2⟩, rfl, rfl⟩
    rw [e1, this]; rfl
  · have e1 : sm = true := hs.2 h0
    have : r = false := bool_no hr fun ⟨M, hM, _⟩ => wh_off N hB hL ht hJ hJ32 h0 M hM
    rw [e1, this]; rfl
end Go.Proofs.YtignfbdgpgidpaaGreatDoor
/- A slice of strings that nobody writes any more, as a part of a world; what a reader's Next hands out. -/
namespace Go.Proofs.YtignfbdgpgidpaaGreatDoor
open Go.RowKit FsPlain CrcPlain OctPlain FramePlain RecPlain RdPlain
set_option linter.unusedVariables false
set_option linter.unusedSimpArgs false
set_option maxRecDepth 20000
def QueA (v : Value) (l : List ByteArray) : Asn := fun w B => Lies w v l ∧ (∀ b off n c, v = .slice (some ⟨b, off, none⟩) n c → B b) ∧ ∀ b, B b → b < w.heap.size
theorem fr_que (v : Value) (l : List ByteArray) : Fr (QueA v l) where
  fr := fun {w w' B C} ⟨⟨a, c, e, hc, h⟩, hB, hl⟩ o d => by
    refine ⟨⟨a, c, e, hc, h.imp id ?_⟩, hB, fun b hb => Nat.lt_of_lt_of_le (hl b hb) o.size⟩
    rintro ⟨b, off, rfl, hr⟩
    have hb := hB b off _ _ e
    refine ⟨b, off, rfl, Nat.lt_of_lt_of_le hr.1 o.size, fun j x hj => ?_⟩
    rw [o.cell (p := ⟨b, off + j, none⟩) hr.1 (d b hb)]
    exact hr.2 j x hj
  lo := fun ⟨_, _, hl⟩ => hl
theorem que_nil (w : World) : QueA (.slice none 0 0) [] w (fun _ => False) := ⟨⟨none, 0, rfl, Nat.le_refl _, .inl rfl⟩, (fun b off n c e => by cases e), fun b hb => hb.elim⟩
theorem que_new {w w' : World} {v : Value} {l : List ByteArray} (h : w'.ownsRow w.heap.size 9 1 v l.length (strs l)) : QueA v l w' (fun b => v.ownBlock = some b) ∧ ∀ b, v.ownBlock = some b → w.heap.size ≤ b := by
  have hl := h.lt
  have L := lies_own h
  refine ⟨⟨L, fun b off n c e => ?_, fun b hb => (hl b hb).2⟩, fun b hb => (hl b hb).1⟩
  rw [e]; rfl
def ansV (a : Ans) : Value := .tuple #[.string a.1, .bool a.2.1, .int .i64 a.2.2]
theorem que_open {v : Value} {l : List ByteArray} {w : World} {B : Nat → Prop} (h : QueA v l w B) (hl : l ≠ []) : ∃ b off c, v = .slice (some ⟨b, off, none⟩) l.length c ∧ l.length ≤ c ∧ SRow w b off l ∧ B b := by
  obtain ⟨⟨a, c, e, hc, hh⟩, hB, _⟩ := h
  rcases hh with h0 | ⟨b, off, rfl, hr⟩
  · exact absurd h0 hl
  · exact ⟨b, off, c, e, hc, hr, hB b off _ _ e⟩
theorem que_tail {b off n c : Nat} {r : ByteArray} {l : List ByteArray} {w : World} {B : Nat → Prop} (h : QueA (.slice (some ⟨b, off, none⟩) n c) (r :: l) w B) (a : Option Addr) (m k : Nat) (hm : m = l.length) (hk : m ≤ k) (ha : 1 ≤ l.length → a = some ⟨b, off + 1, none⟩) (hz : ∀ b' off', a = some ⟨b', off', none⟩ → b' = b) : QueA (.slice a m k) l w B := by
  have hnil : (r :: l) ≠ [] := by simp
  obtain ⟨b2, off2, c2, e, hc, hr, hb⟩ := que_open h hnil
  simp only [Value.slice.injEq, Option.some.injEq, Addr.mk.injEq, and_true] at e
  obtain ⟨⟨rfl, rfl⟩, _, _⟩ := e
  subst hm
  refine ⟨⟨a, k, rfl, hk, ?_⟩, fun b3 off3 n3 c3 e3 => ?_, h.2.2⟩
  · rcases Nat.eq_zero_or_pos l.length with h0 | h0
    · exact .inl (List.eq_nil_of_length_eq_zero h0)
    · refine .inr ⟨b, off + 1, ha h0, hr.1, fun j x hj => ?_⟩
      have := hr.2 (j + 1) x (by rw [List.getElem?_cons_succ]; exact hj)
      rw [Nat.add_right_comm, Nat.add_assoc]
      rwa [← Nat.add_assoc] at this ⊢
  · simp only [Value.slice.injEq] at e3
    rw [hz b3 off3 e3.1]; exact hb
end Go.Proofs.YtignfbdgpgidpaaGreatDoor
/- The program's reader: where its bytes come from (look, pass); its parts. -/
namespace Go.Proofs.YtignfbdgpgidpaaGreatDoor
open Go.RowKit FsPlain CrcPlain OctPlain FramePlain RecPlain RdPlain
set_option linter.unusedVariables false
set_option linter.unusedSimpArgs false
set_option maxRecDepth 20000
structure IsSrc (c : Array Value) (D : Nat) (nm : ByteArray) (pos left : Nat) : Prop where
  c0 : c[0]? = some (.pointer (some ⟨D, 0, none⟩))
  c1 : c[1]? = some (.string nm)
  c2 : c[2]? = some (.int .i64 (pos : Nat))
  c3 : c[3]? = some (.int .i64 (left : Nat))
theorem frs_sd (q D : Nat) (c : Array Value) (T : TypeId) (s : St) : Frs [Blk q c T, DiskA D s] := ⟨fr_blk _ _ _, fr_disk _ _, trivial⟩
theorem sd_blk {q D : Nat} {c : Array Value} {T : TypeId} {s : St} {w : World} {B : Nat → Prop} (h : stars [Blk q c T, DiskA D s] w B) : w.heap[q]? = some (.cells c T (0, 0)) := by
  obtain ⟨_, h, _⟩ := part_at 0 rfl h
  exact h.1
def SrcAt (q D : Nat) (nm : ByteArray) (pos left : Nat) (w : World) : Prop := w.cell? ⟨q, 0, none⟩ = some (.pointer (some ⟨D, 0, none⟩)) ∧ w.cell? ⟨q, 1, none⟩ = some (.string nm) ∧ w.cell? ⟨q, 2, none⟩ = some (.int .i64 (pos : Nat)) ∧ w.cell? ⟨q, 3, none⟩ = some (.int .i64 (left : Nat))
theorem src_at {q D : Nat} {c : Array Value} {T : TypeId} {nm : ByteArray} {pos left : Nat} {w : World} (hc : IsSrc c D nm pos left) (hb : w.heap[q]? = some (.cells c T (0, 0))) : SrcAt q D nm pos left w :=
  ⟨by rw [cells_at hb, hc.c0], by rw [cells_at hb, hc.c1], by rw [cells_at hb, hc.c2], by rw [cells_at hb, hc.c3]⟩
set_option maxHeartbeats 2000000 in
theorem src_look (q D : Nat) (c : Array Value) (T : TypeId) (s : St) (nm : ByteArray) (pos left n : Nat) (hc : IsSrc c D nm pos left) (hn : nm.size ≤ 24) (hm : rightB nm.data.toList = true) (hk : s.calls ≤ 1000000000000) (hp : pos + left ≤ 16777216) (hnn : n ≤ 1000000) (w : World) (B : Nat → Prop) (h : stars [Blk q c T, DiskA D s] w B) :
    Calls Tryz.prog 162 #[.pointer (some ⟨q, 0, none⟩), .int .i64 (n : Nat)] w (Does w B (stars [Blk q c T, DiskA D s.call]) (.tuple #[.string (bs (readR s nm.data.toList pos (min n left)).1), .int .i64 (readR s nm.data.toList pos (min n left)).2])) := by
  obtain ⟨t, ht⟩ : ∃ t, t = bs (readR s nm.data.toList pos (min n left)).1 := ⟨_, rfl⟩
  obtain ⟨er, her⟩ : ∃ er, er = (readR s nm.data.toList pos (min n left)).2 := ⟨_, rfl⟩
  obtain ⟨ak, hak⟩ : ∃ ak, ak = min n left := ⟨_, rfl⟩
  have K0 : ∀ u, Gr w u → SrcAt q D nm pos left u := fun u g => src_at hc (sd_blk (stars_gr (frs_sd _ _ _ _ _) h g))
  have CR : ∀ u, Gr w u → Calls Tryz.prog 118 #[.pointer (some ⟨D, 0, none⟩), .string nm, .int .i64 (pos : Nat), .int .i64 (ak : Nat)] u fun e w' => e = .returned (.tuple #[.string t, .int .i64 er]) ∧ (∃ B', stars [Blk q c T, DiskA D s.call] w' B' ∧ Nx B w B' w') ∧ SrcAt q D nm pos left w' := fun u g => by
    rw [ht, her, hak]
    have C := does_at (f := 118) (Q := DiskA D s.call) 1 rfl (frs_sd _ _ _ _ _) (stars_gr (frs_sd _ _ _ _ _) h g) fun B2 h2 => d_read D s nm pos (min n left) (by omega) hm hk (by omega) (by omega) u B2 h2
    refine C.mono ?_
    rintro e w' ⟨he, B', h', n'⟩
    exact ⟨he, ⟨B', h', (Nx.gr g).trans n'⟩, src_at hc (sd_blk h')⟩
  rw [← ht, ← her]
  have ai : min (n : Int) (left : Int) = (ak : Nat) := by omega
  have hmin : min (n : Int) (left : Int) = n ∨ min (n : Int) (left : Int) = left := by omega
  have hk2 : (ak : Int) ≤ 1000000000 := by omega
  have KS := Lib.hid K0
  have CRH := Lib.hid CR
  have gU := Gr.refl w
  have gUd : Gr w w.drew := Below.drew gU
  clear h K0 CR ht her hak hc hn hm hk
  go_enter Tryz.func162, Tryz.ntmps162
  go_wp2_with fail
  go_region_held3 (fun w' => w'.cell? ⟨q, 0, none⟩ = some (.pointer (some ⟨D, 0, none⟩)) ∧ w'.cell? ⟨q, 1, none⟩ = some (.string nm) ∧ w'.cell? ⟨q, 2, none⟩ = some (.int .i64 (pos : Nat)) ∧ w'.cell? ⟨q, 3, none⟩ = some (.int .i64 (left : Nat))) (first | exact KS.out _ gUd | exact KS.out _ (by assumption) | assumption | go_keep)
    ((go_at_call 118; refine (CRH.out _ (by assumption)).mono ?_; rintro e t2 ⟨rfl, hst, hks⟩))
  obtain ⟨B2, h2, n2⟩ := hst
  have H2 := Lib.hid h2
  have N2 := Lib.hid n2
  clear h2 n2 hks
  go_wp2_with fail
  go_ret2
  exact ⟨rfl, B2, H2.out, N2.out⟩
set_option maxHeartbeats 2000000 in
theorem src_pass (q : Nat) (c c' : Array Value) (T : TypeId) (pos left n pos' left' : Nat) (h2 : c[2]? = some (.int .i64 (pos : Nat))) (h3 : c[3]? = some (.int .i64 (left : Nat))) (hp : pos' = pos + n) (hl : left = left' + n) (hb : pos + left ≤ 16777216) (hc' : (c.setIfInBounds 2 (.int .i64 (pos' : Nat))).setIfInBounds 3 (.int .i64 (left' : Nat)) = c') (w : World) (B : Nat → Prop) (h : Blk q c T w B) :
    Calls Tryz.prog 164 #[.pointer (some ⟨q, 0, none⟩), .int .i64 (n : Nat)] w (Does w B (Blk q c' T) (.tuple #[])) := by
  have c2 : w.cell? ⟨q, 2, none⟩ = some (.int .i64 (pos : Nat)) := by rw [cells_at h.1, h2]
  have f2 := cells_free h.1 2
  have e1 : (pos : Int) + n = (pos' : Nat) := by omega
  have e2 : (left : Int) - n = (left' : Nat) := by omega
  have b1 : (pos' : Int) ≤ 16777216 := by omega
  have b2 : (left' : Int) ≤ 16777216 := by omega
  have c3 : w.cell? ⟨q, 3, none⟩ = some (.int .i64 (left : Nat)) := by rw [cells_at h.1, h3]
  have f3 := cells_free h.1 3
  obtain ⟨B1, k1, n1⟩ := blk_next (i := 2) h (.int .i64 (pos' : Nat))
  obtain ⟨B2, k2, n2⟩ := blk_next (i := 3) k1 (.int .i64 (left' : Nat))
  rw [hc'] at k2
  have K2 := Lib.hid k2
  have N2 := Lib.hid (n1.trans n2)
  clear h h2 h3 k1 k2 n1 n2 hp hl hb hc'
  go_enter Tryz.func164, Tryz.ntmps164
  go_wp2_with fail
  go_end0
  exact ⟨rfl, B2, K2.out, N2.out⟩
def rdc (D P : Nat) (y : Rs) (vq : Value) (k : Nat) (t : Bool) : Array Value := #[.pointer (some ⟨D, 0, none⟩), .string y.nm, .int .i64 (y.pos : Nat), .int .i64 (y.left : Nat), .pointer (some ⟨P, 0, none⟩), .int .i64 y.size, vq, .bool y.short, .int .i64 (y.told : Nat), .int .u32 (k : Nat), .bool t]
def rdshut (n k : Nat) (t : Bool) : Array Value := #[.pointer none, .string ⟨#[]⟩, .int .i64 0, .int .i64 0, .pointer none, .int .i64 0, .slice none 0 0, .bool false, .int .i64 (n : Nat), .int .u32 (k : Nat), .bool t]
def rol (x D P : Nat) (s : St) (b : Bu) (c : Array Value) (vq : Value) (queue : List ByteArray) : List Asn := [Blk x c 175, DiskA D s, QueA vq queue, BuA P b]
theorem frs_rol (x D P : Nat) (s : St) (b : Bu) (c : Array Value) (vq : Value) (queue : List ByteArray) : Frs (rol x D P s b c vq queue) := ⟨fr_blk _ _ _, fr_disk _ _, fr_que _ _, fr_bu _ _, trivial⟩
theorem rol_blk {x D P : Nat} {s : St} {b : Bu} {c : Array Value} {vq : Value} {queue : List ByteArray} {w : World} {B : Nat → Prop} (h : stars (rol x D P s b c vq queue) w B) : w.heap[x]? = some (.cells c 175 (0, 0)) := by
  obtain ⟨_, h, _⟩ := part_at 0 rfl h
  exact h.1
theorem rol_set {x D P : Nat} {s : St} {b : Bu} {c c' : Array Value} {vq : Value} {queue : List ByteArray} {w : World} {B : Nat → Prop} (i : Nat) (u : Value) (h : stars (rol x D P s b c vq queue) w B) (hc : c.setIfInBounds i u = c') :
    ∃ B', stars (rol x D P s b c' vq queue) (w.setCell ⟨x, i, none⟩ u) B' ∧ Nx B w B' (w.setCell ⟨x, i, none⟩ u) :=
  step_at (Q := Blk x c' 175) 0 rfl (frs_rol _ _ _ _ _ _ _ _) h fun B1 h1 => by rw [← hc]; exact blk_next h1 u
theorem rol_none {x D P : Nat} {s : St} {b : Bu} {c : Array Value} {vq : Value} {queue : List ByteArray} {w : World} {B : Nat → Prop} (h : stars (rol x D P s b c vq queue) w B) :
    ∃ B', stars (rol x D P s b c (.slice none 0 0) []) w B' ∧ Nx B w B' w :=
  step_at (Q := QueA (.slice none 0 0) []) 2 rfl (frs_rol _ _ _ _ _ _ _ _) h fun B1 h1 => ⟨_, que_nil w, Only.refl _ _, fun b hb => hb.elim⟩
theorem src_rdc (D P : Nat) (y : Rs) (vq : Value) (k : Nat) (t : Bool) : IsSrc (rdc D P y vq k t) D y.nm y.pos y.left := ⟨rfl, rfl, rfl, rfl⟩
def RO (x D P : Nat) (m : N3) (t : Bool) : Asn := fun w B => ∃ vq, stars (rol x D P m.s m.b (rdc D P m.x vq (sumN m.x.all) t) vq m.x.queue) w B
theorem fr_ro (x D P : Nat) (m : N3) (t : Bool) : Fr (RO x D P m t) := ⟨fun ⟨vq, h⟩ o d => ⟨vq, (fr_stars (frs_rol _ _ _ _ _ _ _ _)).fr h o d⟩, fun ⟨vq, h⟩ => (fr_stars (frs_rol _ _ _ _ _ _ _ _)).lo h⟩
def RSh (x D P : Nat) (s : St) (b : Bu) (n k : Nat) (t : Bool) : Asn := stars (rol x D P s b (rdshut n k t) (.slice none 0 0) [])
def RP3 (x D P : Nat) (m : N3) : Asn := fun w B => (m.x.opn = true ∧ RO x D P m false w B) ∨ (m.x.opn = false ∧ RSh x D P m.s m.b m.x.told (sumN m.x.all) m.x.whole w B)
theorem fr_rp3 (x D P : Nat) (m : N3) : Fr (RP3 x D P m) where
  fr := fun h o d => h.imp (fun h => ⟨h.1, (fr_ro _ _ _ _ _).fr h.2 o d⟩) fun h => ⟨h.1, (fr_stars (frs_rol _ _ _ _ _ _ _ _)).fr h.2 o d⟩
  lo := fun h => h.elim (fun h => (fr_ro _ _ _ _ _).lo h.2) fun h => (fr_stars (frs_rol _ _ _ _ _ _ _ _)).lo h.2
theorem rp3_open {x D P : Nat} {m : N3} {w : World} {B : Nat → Prop} (ho : m.x.opn = true) (h : RP3 x D P m w B) : RO x D P m false w B := by
  rcases h with ⟨_, h⟩ | ⟨h1, _⟩
  · exact h
  · rw [ho] at h1; cases h1
theorem rp3_shut {x D P : Nat} {m : N3} {w : World} {B : Nat → Prop} (ho : m.x.opn = false) (h : RP3 x D P m w B) : RSh x D P m.s m.b m.x.told (sumN m.x.all) m.x.whole w B := by
  rcases h with ⟨h1, _⟩ | ⟨_, h⟩
  · rw [ho] at h1; cases h1
  · exact h
end Go.Proofs.YtignfbdgpgidpaaGreatDoor
/- The program's reader: open, over, info, Count, handOut, stop. -/
namespace Go.Proofs.YtignfbdgpgidpaaGreatDoor
open Go.RowKit FsPlain CrcPlain OctPlain FramePlain RecPlain RdPlain
set_option linter.unusedVariables false
set_option linter.unusedSimpArgs false
set_option maxRecDepth 20000
theorem ropen_yes (x : Nat) (v : Addr) (w : World) (c0 : w.cell? ⟨x, 0, none⟩ = some (.pointer (some v))) :
    Calls Tryz.prog 133 #[.pointer (some ⟨x, 0, none⟩)] w fun e w' => e = .returned (.bool true) ∧ w = w' := by
  go_enter Tryz.func133, Tryz.ntmps133
  go_wp2_with fail
  go_ret
  exact ⟨rfl, rfl⟩
theorem ropen_no (x : Nat) (w : World) (c0 : w.cell? ⟨x, 0, none⟩ = some (.pointer none)) :
    Calls Tryz.prog 133 #[.pointer (some ⟨x, 0, none⟩)] w fun e w' => e = .returned (.bool false) ∧ w = w' := by
  go_enter Tryz.func133, Tryz.ntmps133
  go_wp2_with fail
  go_ret
  exact ⟨rfl, rfl⟩
theorem over_yes (x : Nat) (w : World) (c0 : w.cell? ⟨x, 10, none⟩ = some (.bool true)) :
    Calls Tryz.prog 134 #[.pointer (some ⟨x, 0, none⟩)] w fun e w' => e = .returned (.int .i64 0) ∧ w = w' := by
  go_enter Tryz.func134, Tryz.ntmps134
  go_wp2_with fail
  go_ret
  exact ⟨rfl, rfl⟩
theorem over_no (x : Nat) (w : World) (c0 : w.cell? ⟨x, 10, none⟩ = some (.bool false)) :
    Calls Tryz.prog 134 #[.pointer (some ⟨x, 0, none⟩)] w fun e w' => e = .returned (.int .i64 14) ∧ w = w' := by
  go_enter Tryz.func134, Tryz.ntmps134
  go_wp2_with fail
  go_ret
  exact ⟨rfl, rfl⟩
set_option maxHeartbeats 1000000 in
theorem rinfo_at (x n k : Nat) (w : World) (hx : x < w.heap.size) (c8 : w.cell? ⟨x, 8, none⟩ = some (.int .i64 (n : Nat))) (c9 : w.cell? ⟨x, 9, none⟩ = some (.int .u32 (k : Nat))) :
    Calls Tryz.prog 138 #[.pointer (some ⟨x, 0, none⟩)] w fun e w' => e = .returned (.agg #[.int .i64 (n : Nat), .int .u32 (k : Nat)]) ∧ Gr w w' := by
  obtain ⟨W, hW⟩ : ∃ W, W = w.alloc (.cells #[.int .i64 0, .int .u32 0] 50) := ⟨_, rfl⟩
  have g0 : Gr w W := by rw [hW]; exact Below.alloc (Below.refl _ _) (Nat.le_refl _) _
  have d8 : W.drew.cell? ⟨x, 8, none⟩ = some (.int .i64 (n : Nat)) := (g0.cell (p := ⟨x, 8, none⟩) hx).trans c8
  have d9 : W.drew.cell? ⟨x, 9, none⟩ = some (.int .u32 (k : Nat)) := (g0.cell (p := ⟨x, 9, none⟩) hx).trans c9
  have hw : Two w w.heap.size (.int .i64 0) (.int .u32 0) W.drew := two_new w _ _ 50 (by rw [hW]; exact (Gr.refl _).drew)
  obtain ⟨V, hV, v0, v1, gV⟩ := two_set hw (.int .i64 (n : Nat)) (.int .u32 (k : Nat)) g0.drew (Nat.le_refl _)
  obtain ⟨hlt2, b0, b1, f0, f1⟩ := hw
  have HW := Lib.hid hW
  have HV := Lib.hid hV
  have d8' : W.cell? ⟨x, 8, none⟩ = some (.int .i64 (n : Nat)) := d8
  have d9' : W.cell? ⟨x, 9, none⟩ = some (.int .u32 (k : Nat)) := d9
  clear hW hV g0 c8 c9
  go_enter Tryz.func138, Tryz.ntmps138
  go_wp2_with fail
  rw [← HW.out]
  go_still_tail 9, (by kernel_rfl)
  change wpList _ _ _ _ _ W.drew
  generalize W.drew = W2 at *
  go_wp2_with fail
  rw [← HV.out]
  refine bodyPost_ret (v := .agg #[.int .i64 (n : Nat), .int .u32 (k : Nat)]) (by simp [results, Tryz.results138, go_sem, v0, v1]) rfl ⟨rfl, gV⟩
theorem ro_pop {x D P b off n c : Nat} {s : St} {bu : Bu} {y : Rs} {k : Nat} {r : ByteArray} {l : List ByteArray} {w : World} {B : Nat → Prop} (h : stars (rol x D P s bu (rdc D P y (.slice (some ⟨b, off, none⟩) n c) k false) (.slice (some ⟨b, off, none⟩) n c) y.queue) w B) (hrl : y.queue = r :: l) (hk : k = sumN y.all) (a : Option Addr) (m q : Nat) (hm : m = l.length) (hq : m ≤ q) (ha : 1 ≤ l.length → a = some ⟨b, off + 1, none⟩) (hz : ∀ b' off', a = some ⟨b', off', none⟩ → b' = b) (t : Int) (ht : t = (y.told : Int) + 1) :
    ∃ B', RO x D P ⟨s, bu, { y with queue := y.queue.tail, told := y.told + 1 }⟩ false ((w.setCell ⟨x, 6, none⟩ (.slice a m q)).setCell ⟨x, 8, none⟩ (.int .i64 t)) B' ∧ Nx B w B' ((w.setCell ⟨x, 6, none⟩ (.slice a m q)).setCell ⟨x, 8, none⟩ (.int .i64 t)) := by
  subst hk
  have h0 : ∃ B', stars (rol x D P s bu (rdc D P y (.slice (some ⟨b, off, none⟩) n c) (sumN y.all) false) (.slice a m q) l) w B' ∧ Nx B w B' w :=
    step_at (Q := QueA (.slice a m q) l) 2 rfl (frs_rol _ _ _ _ _ _ _ _) h fun B1 h1 => ⟨B1, que_tail (by rw [hrl] at h1; exact h1) a m q hm hq ha hz, Nx.refl _ _⟩
  obtain ⟨B0, h0, n0⟩ := h0
  obtain ⟨B1, h1, n1⟩ := rol_set (c' := rdc D P y (.slice a m q) (sumN y.all) false) 6 (.slice a m q) h0 rfl
  obtain ⟨B2, h2, n2⟩ := rol_set (c' := rdc D P { y with queue := y.queue.tail, told := y.told + 1 } (.slice a m q) (sumN y.all) false) 8 (.int .i64 t) h1 (by rw [ht]; rfl)
  have e : l = y.queue.tail := by rw [hrl]; rfl
  rw [e] at h2
  exact ⟨B2, ⟨.slice a m q, h2⟩, (n0.trans n1).trans n2⟩
set_option maxHeartbeats 2000000 in
theorem r_hand (x D P : Nat) (m : N3) (hql : m.x.queue.length ≤ 4) (hq : m.x.queue ≠ []) (ht : m.x.told ≤ 100000) (w : World) (B : Nat → Prop) (h : RO x D P m false w B) :
    Calls Tryz.prog 137 #[.pointer (some ⟨x, 0, none⟩)] w (Does w B (RO x D P (popN m).1 false) (.string (popN m).2.1)) := by
  obtain ⟨vq, h⟩ := h
  obtain ⟨_, hqa, _⟩ := part_at 2 rfl h
  obtain ⟨b, off, c, rfl, hc, hr, _⟩ := que_open hqa hq
  obtain ⟨r, l, hrl⟩ := List.exists_cons_of_ne_nil hq
  have y0 : w.cell? ⟨b, off, none⟩ = some (.string r) := by have := hr.2 0 r (by rw [hrl]; rfl); simpa using this
  have hb := rol_blk h
  obtain ⟨n, hn⟩ : ∃ n, m.x.queue.length = n := ⟨_, rfl⟩
  have hn1 : 1 ≤ n := by rw [← hn, hrl]; simp
  have hn4 : n ≤ 4 := by rw [← hn]; exact hql
  obtain ⟨k, hk⟩ : ∃ k, k = sumN m.x.all := ⟨_, rfl⟩
  rw [← hk] at h hb
  have c6 : w.cell? ⟨x, 6, none⟩ = some (.slice (some ⟨b, off, none⟩) n c) := by rw [cells_at hb, ← hn]; rfl
  have c8 : w.cell? ⟨x, 8, none⟩ = some (.int .i64 m.x.told) := by rw [cells_at hb]; rfl
  have f6 := cells_free hb 6
  have f8 := cells_free hb 8
  have hv : (popN m).2.1 = r := by unfold popN; rw [hrl]; rfl
  rw [hv]
  have H := Lib.hid h
  have HN := Lib.hid hn
  have HK := Lib.hid hk
  have HRL := Lib.hid hrl
  rw [hn] at hc
  clear h hqa hr hb hn hrl hq hql hk hv
  go_enter Tryz.func137, Tryz.ntmps137
  go_wp2_with fail
  · have hnl : n - 1 = l.length := by have := HN.out; rw [HRL.out] at this; simp at this; omega
    obtain ⟨B2, h2, n2⟩ := ro_pop (a := some ⟨b, off, none⟩) (m := n - 1) (q := 0) (by have := H.out; rw [HN.out] at this; exact this) HRL.out HK.out hnl (by omega) (fun h => by omega) (fun b' off' e => by simp at e; exact e.1.symm) ((m.x.told : Int) + 1) rfl
    go_ret
    exact ⟨rfl, B2, h2, n2⟩
  · have hnl : n - 1 = l.length := by have := HN.out; rw [HRL.out] at this; simp at this; omega
    obtain ⟨B2, h2, n2⟩ := ro_pop (a := some ⟨b, off + 1, none⟩) (m := n - 1) (q := c - 1) (by have := H.out; rw [HN.out] at this; exact this) HRL.out HK.out hnl (by omega) (fun h => rfl) (fun b' off' e => by simp at e; exact e.1.symm) ((m.x.told : Int) + 1) rfl
    go_ret
    exact ⟨rfl, B2, h2, n2⟩
end Go.Proofs.YtignfbdgpgidpaaGreatDoor
