/- In one text: VcClose. -/
import Derived.Test.YtibajmjplpnbmaaP34
import Derived.RegionTactic
import Derived.BigRegion
/- The program's store: Close. -/
namespace Go.Proofs.Ytibajmjplpnbmaa
open Go.RowKit FsPlain OctPlain DsPlain
set_option linter.unusedVariables false
set_option linter.unusedSimpArgs false
set_option maxRecDepth 20000
/-- The cells of one that was closed. -/
def shc (n d : Nat) : Array Value := #[.pointer none, .pointer none, .string ⟨#[]⟩, .int .i64 0, .int .i64 (n : Nat), .int .i64 (d : Nat), .slice none 0 0]
def ShA (p n d : Nat) : Asn := Blk p (shc n d) 50
theorem fr_sh (p n d : Nat) : Fr (ShA p n d) := fr_blk _ _ _
theorem drop_two {A R V U : Asn} {w : World} {B : Nat → Prop} (h : stars [A, R, V, U] w B) : ∃ B', stars [A, U] w B' ∧ Nx B w B' w := by
  obtain ⟨B1, B2, a, ⟨C1, C2, r, ⟨D1, D2, v, ⟨E1, E2, u, em, a4, e4⟩, a3, e3⟩, a2, e2⟩, a1, e1⟩ := h
  refine ⟨fun b => B1 b ∨ E1 b, ⟨B1, E1, a, ⟨E1, fun _ => False, u, (fun _ h => h), (fun _ _ h => h), fun b => (or_false _).symm ▸ Iff.rfl⟩, fun b h1 h2 => a1 b h1 ((e2 b).2 (.inr ((e3 b).2 (.inr ((e4 b).2 (.inl h2)))))), fun b => Iff.rfl⟩, Only.refl _ _, fun b hb => .inl ?_⟩
  rcases hb with hb | hb
  · exact (e1 b).2 (.inl hb)
  · exact (e1 b).2 (.inr ((e2 b).2 (.inr ((e3 b).2 (.inr ((e4 b).2 (.inl hb)))))))
def sbl (p D P : Nat) (o : So) (vh : Value) (K : List Kp) (b : Bu) : List Asn := [Blk p (stc D P o vh) 50, RowK vh K, VecA K, BuA P b]
theorem frs_sbl (p D P : Nat) (o : So) (vh : Value) (K : List Kp) (b : Bu) : Frs (sbl p D P o vh K b) := ⟨fr_blk _ _ _, fr_rowK _ _, fr_vec _, fr_bu _ _, trivial⟩
theorem st_sbl {p D P : Nat} {o : So} {hs : List (Int × List Int)} {b : Bu} {w : World} {B : Nat → Prop} (h : stars [StA p D P o hs, BuA P b] w B) : ∃ vh K, abK K = hs ∧ stars (sbl p D P o vh K b) w B := by
  obtain ⟨B1, B2, ⟨vh, K, e, p1⟩, q, a, e2⟩ := h
  exact ⟨vh, K, e, stars_app (L := sol p D P o vh K) (M := [BuA P b]) |>.2 ⟨B1, B2, p1, q, a, e2⟩⟩
theorem sbl_blk {p D P : Nat} {o : So} {vh : Value} {K : List Kp} {b : Bu} {w : World} {B : Nat → Prop} (h : stars (sbl p D P o vh K b) w B) : w.heap[p]? = some (.cells (stc D P o vh) 50 (0, 0)) := by
  obtain ⟨_, h, _⟩ := part_at 0 rfl h
  exact h.1
/-- Seven cells of a block stored at once. -/
theorem shut_next {p D P : Nat} {o : So} {vh : Value} {w : World} {B : Nat → Prop} (h : Blk p (stc D P o vh) 50 w B) {w1 w2 w3 w4 w5 w6 w7 : World}
    (e1 : w1 = w.setCell ⟨p, 0, none⟩ (.pointer none)) (e2 : w2 = w1.setCell ⟨p, 1, none⟩ (.pointer none)) (e3 : w3 = w2.setCell ⟨p, 2, none⟩ (.string ⟨#[]⟩)) (e4 : w4 = w3.setCell ⟨p, 3, none⟩ (.int .i64 0)) (e5 : w5 = w4.setCell ⟨p, 4, none⟩ (.int .i64 (o.n : Nat))) (e6 : w6 = w5.setCell ⟨p, 5, none⟩ (.int .i64 (o.d : Nat))) (e7 : w7 = w6.setCell ⟨p, 6, none⟩ (.slice none 0 0)) :
    ∃ B', ShA p o.n o.d w7 B' ∧ Nx B w B' w7 := by
  obtain ⟨B1, h1, n1⟩ := blk_nextV (i := 0) h (.pointer none)
  rw [← e1] at h1 n1
  replace h1 : Blk p #[.pointer none, .pointer (some ⟨P, 0, none⟩), .string o.nm, .int .i64 (o.room : Nat), .int .i64 (o.n : Nat), .int .i64 (o.d : Nat), vh] 50 w1 B1 := h1
  obtain ⟨B2, h2, n2⟩ := blk_nextV (i := 1) h1 (.pointer none)
  rw [← e2] at h2 n2
  replace h2 : Blk p #[.pointer none, .pointer none, .string o.nm, .int .i64 (o.room : Nat), .int .i64 (o.n : Nat), .int .i64 (o.d : Nat), vh] 50 w2 B2 := h2
  obtain ⟨B3, h3, n3⟩ := blk_nextV (i := 2) h2 (.string ⟨#[]⟩)
  rw [← e3] at h3 n3
  replace h3 : Blk p #[.pointer none, .pointer none, .string ⟨#[]⟩, .int .i64 (o.room : Nat), .int .i64 (o.n : Nat), .int .i64 (o.d : Nat), vh] 50 w3 B3 := h3
  obtain ⟨B4, h4, n4⟩ := blk_nextV (i := 3) h3 (.int .i64 0)
  rw [← e4] at h4 n4
  replace h4 : Blk p #[.pointer none, .pointer none, .string ⟨#[]⟩, .int .i64 0, .int .i64 (o.n : Nat), .int .i64 (o.d : Nat), vh] 50 w4 B4 := h4
  obtain ⟨B5, h5, n5⟩ := blk_nextV (i := 4) h4 (.int .i64 (o.n : Nat))
  rw [← e5] at h5 n5
  replace h5 : Blk p #[.pointer none, .pointer none, .string ⟨#[]⟩, .int .i64 0, .int .i64 (o.n : Nat), .int .i64 (o.d : Nat), vh] 50 w5 B5 := h5
  obtain ⟨B6, h6, n6⟩ := blk_nextV (i := 5) h5 (.int .i64 (o.d : Nat))
  rw [← e6] at h6 n6
  replace h6 : Blk p #[.pointer none, .pointer none, .string ⟨#[]⟩, .int .i64 0, .int .i64 (o.n : Nat), .int .i64 (o.d : Nat), vh] 50 w6 B6 := h6
  obtain ⟨B7, h7, n7⟩ := blk_nextV (i := 6) h6 (.slice none 0 0)
  rw [← e7] at h7 n7
  replace h7 : Blk p #[.pointer none, .pointer none, .string ⟨#[]⟩, .int .i64 0, .int .i64 (o.n : Nat), .int .i64 (o.d : Nat), .slice none 0 0] 50 w7 B7 := h7
  exact ⟨B7, h7, (((((n1.trans n2).trans n3).trans n4).trans n5).trans n6).trans n7⟩
/-- The cells that Close reads. -/
def ClAt (p D P : Nat) (o : So) (w : World) : Prop := w.cell? ⟨p, 1, none⟩ = some (.pointer (some ⟨P, 0, none⟩)) ∧ w.cell? ⟨p, 3, none⟩ = some (.int .i64 (o.room : Nat))
set_option maxHeartbeats 4000000 in
theorem vclose_c (p D P : Nat) (o : So) (hs : List (Int × List Int)) (b : Bu) (w : World) (B : Nat → Prop) (h : stars [StA p D P o hs, BuA P b] w B) :
    Calls Try.prog 19 #[.pointer (some ⟨p, 0, none⟩)] w (Does w B (stars [ShA p o.n o.d, BuA P (b.give (o.room : Nat))]) (.tuple #[])) := by
  obtain ⟨vh, K, rfl, hh⟩ := st_sbl h
  have hb := sbl_blk hh
  have O := vopen_c p (some ⟨D, 0, none⟩) w (by rw [cells_at hb]; rfl)
  have K0 : ∀ u, Gr w u → ClAt p D P o u := fun u g => by
    have hb1 := sbl_blk (stars_gr (frs_sbl _ _ _ _ _ _ _) hh g)
    exact ⟨by rw [cells_at hb1]; rfl, by rw [cells_at hb1]; rfl⟩
  have C1 : ∀ u, Gr w u → Calls Try.prog 31 #[.pointer (some ⟨P, 0, none⟩), .int .i64 (o.room : Nat)] u fun e w' => e = .returned (.tuple #[]) ∧ (∃ B', stars (sbl p D P o vh K (b.give (o.room : Nat))) w' B' ∧ Nx B w B' w') ∧ ClAt p D P o w' := fun u g => by
    refine (does_at (f := 31) (Q := BuA P (b.give (o.room : Nat))) 3 rfl (frs_sbl _ _ _ _ _ _ _) (stars_gr (frs_sbl _ _ _ _ _ _ _) hh g) fun B2 h2 => bu_give P b (o.room : Nat) u B2 h2).mono ?_
    rintro e w' ⟨he, B', h', n'⟩
    have hb2 := sbl_blk h'
    exact ⟨he, ⟨B', h', (Nx.gr g).trans n'⟩, by rw [cells_at hb2]; rfl, by rw [cells_at hb2]; rfl⟩
  have KS := Lib.hid K0
  have CH := Lib.hid C1
  have gU := Gr.refl w
  have gUd : Gr w w.drew := Below.drew gU
  clear h hh hb K0 C1
  go_enter Try.func19, Try.ntmps19
  go_wp2_with fail
  refine O.mono ?_; rintro e u ⟨rfl, rfl⟩
  go_wp2_with fail
  go_region_held3 (fun w' => w'.cell? ⟨p, 1, none⟩ = some (.pointer (some ⟨P, 0, none⟩)) ∧ w'.cell? ⟨p, 3, none⟩ = some (.int .i64 (o.room : Nat))) (first | exact KS.out _ gUd | exact KS.out _ (by assumption) | assumption | go_keep)
    ((go_at_call 31; (with_reducible refine (CH.out _ (by assumption)).mono ?_); rintro e t2 ⟨rfl, hst, hks⟩))
  obtain ⟨B2, h2, n2⟩ := hst
  have hb2 := sbl_blk h2
  have c4 : t2.cell? ⟨p, 4, none⟩ = some (.int .i64 (o.n : Nat)) := by rw [cells_at hb2]; rfl
  have c5 : t2.cell? ⟨p, 5, none⟩ = some (.int .i64 (o.d : Nat)) := by rw [cells_at hb2]; rfl
  have c0 : t2.cell? ⟨p, 0, none⟩ = some (.pointer (some ⟨D, 0, none⟩)) := by rw [cells_at hb2]; rfl
  have c2 : t2.cell? ⟨p, 2, none⟩ = some (.string o.nm) := by rw [cells_at hb2]; rfl
  have c6 : t2.cell? ⟨p, 6, none⟩ = some vh := by rw [cells_at hb2]; rfl
  obtain ⟨c1, c3⟩ := hks
  have f0 := cells_free hb2 0
  have f1 := cells_free hb2 1
  have f2 := cells_free hb2 2
  have f3 := cells_free hb2 3
  have f4 := cells_free hb2 4
  have f5 := cells_free hb2 5
  have f6 := cells_free hb2 6
  have H2 := Lib.hid h2
  have N2 := Lib.hid n2
  clear h2 n2 hb2
  go_wp2_with fail
  go_region
  all_goals go_wp2_with fail
  all_goals
    obtain ⟨w1, e1⟩ : ∃ w1, w1 = t2.setCell ⟨p, 0, none⟩ (.pointer none) := ⟨_, rfl⟩
    rw [← e1]
    obtain ⟨w2, e2⟩ : ∃ w2, w2 = w1.setCell ⟨p, 1, none⟩ (.pointer none) := ⟨_, rfl⟩
    rw [← e2]
    obtain ⟨w3, e3⟩ : ∃ w3, w3 = w2.setCell ⟨p, 2, none⟩ (.string ⟨#[]⟩) := ⟨_, rfl⟩
    rw [← e3]
    obtain ⟨w4, e4⟩ : ∃ w4, w4 = w3.setCell ⟨p, 3, none⟩ (.int .i64 0) := ⟨_, rfl⟩
    rw [← e4]
    obtain ⟨w5, e5⟩ : ∃ w5, w5 = w4.setCell ⟨p, 4, none⟩ (.int .i64 (o.n : Nat)) := ⟨_, rfl⟩
    rw [← e5]
    obtain ⟨w6, e6⟩ : ∃ w6, w6 = w5.setCell ⟨p, 5, none⟩ (.int .i64 (o.d : Nat)) := ⟨_, rfl⟩
    rw [← e6]
    obtain ⟨w7, e7⟩ : ∃ w7, w7 = w6.setCell ⟨p, 6, none⟩ (.slice none 0 0) := ⟨_, rfl⟩
    rw [← e7]
    obtain ⟨B3, h3, n3⟩ := step_at (Q := ShA p o.n o.d) 0 rfl (frs_sbl _ _ _ _ _ _ _) H2.out fun B1 h1 => shut_next h1 e1 e2 e3 e4 e5 e6 e7
    obtain ⟨B4, h4, n4⟩ := drop_two h3
    have g7 : Gr w7 w7.drew := Below.drew (Gr.refl _)
    have h5 := stars_gr (L := [ShA p o.n o.d, BuA P (b.give (o.room : Nat))]) ⟨fr_sh _ _ _, fr_bu _ _, trivial⟩ h4 g7
    have n5 := ((N2.out.trans n3).trans n4).trans (Nx.gr g7)
    go_end0
    exact ⟨rfl, B4, h5, n5⟩
end Go.Proofs.Ytibajmjplpnbmaa
