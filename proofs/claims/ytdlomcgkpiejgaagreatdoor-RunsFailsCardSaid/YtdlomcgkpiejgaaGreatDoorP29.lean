/- In one text: Rd5. -/
import Derived.Test.YtdlomcgkpiejgaaGreatDoorP28
import Derived.Test.YtdlomcgkpiejgaaGreatDoorP18
/- The program's reader: takeBlock. -/
namespace Go.Proofs.YtdlomcgkpiejgaaGreatDoor
open Go.RowKit FsPlain CrcPlain OctPlain FramePlain RecPlain RdPlain
set_option linter.unusedVariables false
set_option linter.unusedSimpArgs false
set_option maxRecDepth 20000
/-- A new row in the place of what waited. -/
theorem rol_queue {x D P : Nat} {s : St} {b : Bu} {c : Array Value} {vq v : Value} {queue gl : List ByteArray} {w : World} {B : Nat → Prop} (h : stars (QueA v gl :: rol x D P s b c vq queue) w B) : ∃ B', stars (rol x D P s b c v gl) w B' ∧ Nx B w B' w := by
  refine stars_drop (P := QueA vq queue) (L := rol x D P s b c v gl) (stars_perm ?_ h)
  unfold rol
  refine (List.Perm.swap _ _ _).trans (List.Perm.trans (.cons _ (List.Perm.swap _ _ _)) ?_)
  refine (List.Perm.cons _ (.cons _ (List.Perm.swap _ _ _))).trans ?_
  refine (List.Perm.cons _ (List.Perm.swap _ _ _)).trans ?_
  exact List.Perm.swap _ _ _
set_option maxHeartbeats 1000000 in
theorem r_block_late (x D P : Nat) (m : N3) (v : Value) (gn : Int) (hs : m.x.short = true) (w : World) (B : Nat → Prop) (h : RO x D P m false w B) :
    Calls Tryz.prog 99 #[.pointer (some ⟨x, 0, none⟩), v, .int .i64 gn] w (Does w B (RO x D P m false) (.int .i64 6)) := by
  have H := Lib.hid h
  obtain ⟨vq, h⟩ := h
  have hb := rol_blk h
  have c7 : w.cell? ⟨x, 7, none⟩ = some (.bool true) := by rw [cells_at hb, ← hs]; rfl
  clear h hb hs
  go_enter Tryz.func99, Tryz.ntmps99
  go_wp2_with fail
  go_ret
  exact ⟨rfl, B, H.out, Nx.refl _ _⟩
/-- On the way: the sum of the first ones. -/
def SumsAt (x D P : Nat) (s : St) (b : Bu) (y : Rs) (v : Value) (gl : List ByteArray) (n : Nat) (w : World) (B : Nat → Prop) (i : Value) (wr : World) : Prop :=
  ∃ j : Nat, j ≤ n ∧ i = .int .i64 j ∧ ∃ B', stars (rol x D P s b (rdc D P y v (sumN (y.all ++ gl.take j)) false) v gl) wr B' ∧ Nx B w B' wr
set_option maxHeartbeats 4000000 in
theorem r_block (x D P : Nat) (m : N3) (v vq : Value) (gl : List ByteArray) (gn : Nat) (M : N3) (hM : M = ⟨m.s, m.b, { m.x with short := decide (gl.length < 4), queue := gl, all := m.x.all ++ gl, pos := m.x.pos + gn, left := m.x.left - gn }⟩) (hs : m.x.short = false) (hgl : gl.length ≤ 4) (hz : ∀ r ∈ gl, r.size ≤ 1000) (hle : gn ≤ m.x.left) (hf : m.x.pos + m.x.left ≤ 16777216) (w : World) (B : Nat → Prop) (h : stars (rol x D P m.s m.b (rdc D P m.x vq (sumN m.x.all) false) v gl) w B) :
    Calls Tryz.prog 99 #[.pointer (some ⟨x, 0, none⟩), v, .int .i64 (gn : Nat)] w (Does w B (RO x D P M false) (.int .i64 0)) := by
  obtain ⟨_, hqa, _⟩ := part_at 2 rfl h
  obtain ⟨⟨a, c, rfl, hc, _⟩, _⟩ := hqa
  obtain ⟨n, hn⟩ : ∃ n, gl.length = n := ⟨_, rfl⟩
  rw [hn] at h hgl hc ⊢
  have hb := rol_blk h
  have c7 : w.cell? ⟨x, 7, none⟩ = some (.bool false) := by rw [cells_at hb, ← hs]; rfl
  have c6 : w.cell? ⟨x, 6, none⟩ = some vq := by rw [cells_at hb]; rfl
  have f7 := cells_free hb 7
  have f6 := cells_free hb 6
  obtain ⟨y, hy⟩ : ∃ y : Rs, y = { m.x with short := decide (n < 4), queue := gl } := ⟨_, rfl⟩
  have hst : SumsAt x D P m.s m.b y (.slice a n c) gl n w B (.int .i64 0) ((w.setCell ⟨x, 7, none⟩ (.bool (decide ((n : Int) < 4)))).setCell ⟨x, 6, none⟩ (.slice a n c)) := by
    rw [show decide ((n : Int) < 4) = decide (n < 4) by simp only [decide_eq_decide]; omega]
    obtain ⟨B1, h1, n1⟩ := rol_set (c' := rdc D P { m.x with short := decide (n < 4) } vq (sumN m.x.all) false) 7 (.bool (decide (n < 4))) h rfl
    obtain ⟨B2, h2, n2⟩ := rol_set (c' := rdc D P y (.slice a n c) (sumN m.x.all) false) 6 (.slice a n c) h1 (by rw [hy]; rfl)
    refine ⟨0, Nat.zero_le _, rfl, B2, ?_, n1.trans n2⟩
    rw [List.take_zero, List.append_nil, show y.all = m.x.all by rw [hy]]
    exact h2
  have HY := Lib.hid hy
  have HZ := Lib.hid hz
  have HN := Lib.hid hn
  have HM := Lib.hid hM
  clear h hb hs hz hy hM hn
  go_enter Tryz.func99, Tryz.ntmps99
  go_wp2_with fail
  go_loopw [25] (fun i wr => SumsAt x D P m.s m.b y (.slice a n c) gl n w B i wr) (fun i _ => n - (intOf i).toNat)
  case atStart => exact hst
  case round =>
    clear hst c7 c6 f7 f6
    obtain ⟨j, hj, rfl, B1, h1, n1⟩ := hrel
    have hln := HN.out
    have hb1 := rol_blk h1
    by_cases hlt : j < n
    · obtain ⟨r, hr, hstep, hmem⟩ := take_at (l := gl) (j := j) (by omega)
      obtain ⟨_, hq1, _⟩ := part_at 2 rfl h1
      obtain ⟨b, off, c2, hv, _, hrow, _⟩ := que_open hq1 (by intro e; rw [e] at hln; simp at hln; omega)
      simp only [Value.slice.injEq] at hv
      obtain ⟨rfl, -, rfl⟩ := hv
      have hcx : wr.cell? ⟨b, off + j, none⟩ = some (.string r) := hrow.2 j r hr
      have MC := fun w => more_c (sumN (y.all ++ gl.take j)) (sumN_lt _) r (HZ.out r hmem) w
      have hsn := sumN_snoc (y.all ++ gl.take j) r
      rw [List.append_assoc, ← hstep] at hsn
      have c9 : wr.cell? ⟨x, 9, none⟩ = some (.int .u32 (sumN (y.all ++ gl.take j) : Nat)) := by rw [cells_at hb1]; rfl
      obtain ⟨k, hk⟩ : ∃ k, k = sumN (y.all ++ gl.take j) := ⟨_, rfl⟩
      obtain ⟨k2, hk2⟩ : ∃ k2, k2 = more k r.data.toList := ⟨_, rfl⟩
      rw [← hk] at MC hsn c9 h1 hb1
      rw [← hk2] at MC hsn
      have hK : ∀ u, Gr wr u → u.cell? ⟨x, 9, none⟩ = some (.int .u32 (k : Nat)) ∧ u.frozen? ⟨x, 9, none⟩ = false ∧ SumsAt x D P m.s m.b y (.slice (some ⟨b, off, none⟩) n c) gl n w B (.int .i64 ((j : Int) + 1)) (u.setCell ⟨x, 9, none⟩ (.int .u32 (k2 : Nat))) := fun u g => by
        have h2 := stars_gr (frs_rol _ _ _ _ _ _ _ _) h1 g
        have hb2 := rol_blk h2
        obtain ⟨B3, h3, n3⟩ := rol_set (c' := rdc D P y (.slice (some ⟨b, off, none⟩) n c) k2 false) 9 (.int .u32 (k2 : Nat)) h2 rfl
        refine ⟨by rw [cells_at hb2]; rfl, cells_free hb2 9, j + 1, hlt, rfl, B3, ?_, (n1.trans (Nx.gr g)).trans n3⟩
        rw [hsn]; exact h3
      have HK := Lib.hid hK
      clear hsn hK hk hk2 hstep hmem hr hrow hq1 h1 n1 hb1 HZ HN hln HY HM
      go_wp2_with fail
      refine (MC _).mono ?_; rintro e u ⟨rfl, g⟩
      obtain ⟨d9, f9, hend⟩ := HK.out u g
      have HE := Lib.hid hend
      clear hend
      go_wp2_with fail
      refine ⟨HE.out, ?_⟩
      simp [intOf]; omega
    · obtain rfl : j = n := by omega
      rw [List.take_of_length_le (by omega)] at h1 hb1
      obtain ⟨k, hk⟩ : ∃ k, k = sumN (y.all ++ gl) := ⟨_, rfl⟩
      rw [← hk] at h1 hb1
      have C := does_at (f := 83) 0 rfl (frs_rol _ _ _ _ _ _ _ _) h1 fun B2 h2 => src_pass x (rdc D P y (.slice a j c) k false) (rdc D P M.x (.slice a j c) k false) _ m.x.pos m.x.left gn (m.x.pos + gn) (m.x.left - gn) (by rw [HY.out]; rfl) (by rw [HY.out]; rfl) rfl (by omega) hf (by rw [HY.out, HM.out, ← hln]; rfl) wr B2 h2
      have CC := Lib.hid C
      have HK := Lib.hid hk
      have N1 := Lib.hid n1
      clear C hk h1 n1 hb1
      go_wp2_with fail
      refine CC.out.mono ?_; rintro e w3 hd
      obtain ⟨rfl, B3, h3, n3⟩ := hd
      have H3 := Lib.hid h3
      have N3 := Lib.hid (N1.out.trans n3)
      clear h3 n3 CC
      go_wp2_with fail
      go_ret
      refine ⟨rfl, B3, ⟨.slice a j c, ?_⟩, N3.out⟩
      have := H3.out
      rw [HK.out] at this
      rw [show M.s = m.s by rw [HM.out], show M.b = m.b by rw [HM.out], show M.x.all = y.all ++ gl by rw [HM.out, HY.out], show M.x.queue = gl by rw [HM.out]]
      exact this
end Go.Proofs.YtdlomcgkpiejgaaGreatDoor
