/- In one text: VcTurn. -/
import Derived.Test.YtibajmjplpnbmaaP06
import Derived.Test.YtibajmjplpnbmaaP08
import Derived.Test.YtibajmjplpnbmaaP19
import Derived.Deep.RegionHeld3
/- The program's store: its parts; open, turn; where one is among those that are kept. -/
namespace Go.Proofs.Ytibajmjplpnbmaa
open Go.RowKit FsPlain
set_option linter.unusedVariables false
set_option linter.unusedSimpArgs false
set_option maxRecDepth 20000
/-- What a store is of: its file's name, its room, how many vectors there are, of how many numbers. -/
structure So where
  nm : ByteArray
  room : Nat
  n : Nat
  d : Nat
def stc (D P : Nat) (o : So) (vh : Value) : Array Value := #[.pointer (some ⟨D, 0, none⟩), .pointer (some ⟨P, 0, none⟩), .string o.nm, .int .i64 (o.room : Nat), .int .i64 (o.n : Nat), .int .i64 (o.d : Nat), vh]
/-- The parts of one that is open. -/
def sol (p D P : Nat) (o : So) (vh : Value) (K : List Kp) : List Asn := [Blk p (stc D P o vh) 50, RowK vh K, VecA K]
theorem frs_sol (p D P : Nat) (o : So) (vh : Value) (K : List Kp) : Frs (sol p D P o vh K) := ⟨fr_blk _ _ _, fr_rowK _ _, fr_vec _, trivial⟩
theorem sol_blk {p D P : Nat} {o : So} {vh : Value} {K : List Kp} {w : World} {B : Nat → Prop} (h : stars (sol p D P o vh K) w B) : w.heap[p]? = some (.cells (stc D P o vh) 50 (0, 0)) := by
  obtain ⟨_, h, _⟩ := part_at 0 rfl h
  exact h.1
theorem sol_row {p D P : Nat} {o : So} {vh : Value} {K : List Kp} {w : World} {B : Nat → Prop} (h : stars (sol p D P o vh K) w B) : OwnK w vh K := by
  obtain ⟨_, h, _⟩ := part_at 1 rfl h
  exact h.1
theorem sol_vec {p D P : Nat} {o : So} {vh : Value} {K : List Kp} {w : World} {B : Nat → Prop} (h : stars (sol p D P o vh K) w B) : ∀ x ∈ K, LiesI w x.v x.l := by
  obtain ⟨_, h, _⟩ := part_at 2 rfl h
  exact fun x hx => (h.1 x hx).1
theorem sol_gr {p D P : Nat} {o : So} {vh : Value} {K : List Kp} {w w' : World} {B : Nat → Prop} (h : stars (sol p D P o vh K) w B) (g : Gr w w') : stars (sol p D P o vh K) w' B := stars_gr (frs_sol _ _ _ _ _ _) h g
/-- A store into a block known whole. -/
theorem blk_nextV {p i : Nat} {c : Array Value} {T : TypeId} {w : World} {B : Nat → Prop} (h : Blk p c T w B) (u : Value) : ∃ B', Blk p (c.setIfInBounds i u) T (w.setCell ⟨p, i, none⟩ u) B' ∧ Nx B w B' (w.setCell ⟨p, i, none⟩ u) :=
  ⟨B, ⟨cells_set h.1 i u, h.2⟩, Nx.of (Only.cell1 _ _ _ _) fun b hb => (h.2 b).2 hb⟩
/-! open -/
theorem vopen_c (p : Nat) (dp : Option Addr) (w : World) (h : w.cell? ⟨p, 0, none⟩ = some (.pointer dp)) :
    Calls Try.prog 36 #[.pointer (some ⟨p, 0, none⟩)] w fun e w' => e = .returned (.bool dp.isSome) ∧ w = w' := by
  cases dp
  all_goals
    go_enter Try.func36, Try.ntmps36
    go_wp2_with fail
    go_ret
    exact ⟨rfl, rfl⟩
theorem vopen_nil (w : World) :
    Calls Try.prog 36 #[.pointer none] w fun e w' => e = .returned (.bool false) ∧ w = w' := by
  go_enter Try.func36, Try.ntmps36
  go_wp2_with fail
  go_ret
  exact ⟨rfl, rfl⟩
/-! turn -/
set_option maxHeartbeats 1000000 in
theorem vturn_c (p D P : Nat) (o : So) (vh : Value) (K : List Kp) (a : Nat) (x : Kp) (hx : K[a]? = some x) (hl : K.length ≤ 2000000) (w : World) (B : Nat → Prop) (h : stars (sol p D P o vh K) w B) :
    Calls Try.prog 39 #[.pointer (some ⟨p, 0, none⟩), .int .i64 (a : Nat)] w (Does w B (stars (sol p D P o vh (x :: K.eraseIdx a))) (.tuple #[])) := by
  have hlt := (List.getElem?_eq_some_iff.1 hx).1
  obtain ⟨ad, c, rfl, hc, hg⟩ := ownK_shape (sol_row h)
  obtain ⟨g, rfl, _⟩ := hg (by omega)
  have hb := sol_blk h
  have c6 : w.cell? ⟨p, 6, none⟩ = some (.slice (some ⟨g, 0, none⟩) K.length c) := by rw [cells_at hb]; rfl
  have R1 := Lib.hid (does_at (f := 52) 1 rfl (frs_sol _ _ _ _ _ _) h fun B1 h1 => rev_does 0 (a + 1) c (by omega) hl w B1 h1)
  have hK1 : (revK K 0 (a + 1)).length = K.length := revK_length _ _ _ (by omega)
  have hE := turnK_eq hx
  have hm : ∀ y ∈ x :: K.eraseIdx a, y ∈ K := fun y hy => mem_turn hx hy
  have hlx := turn_length hx
  obtain ⟨K1, hK⟩ : ∃ K1, K1 = revK K 0 (a + 1) := ⟨_, rfl⟩
  rw [← hK] at hE hK1 R1
  have fin : ∀ w1 (B1 : Nat → Prop), stars [Blk p (stc D P o (.slice (some ⟨g, 0, none⟩) K.length c)) 50, RowK (.slice (some ⟨g, 0, none⟩) K.length c) (x :: K.eraseIdx a), VecA K] w1 B1 → ∃ B2, stars (sol p D P o (.slice (some ⟨g, 0, none⟩) K.length c) (x :: K.eraseIdx a)) w1 B2 ∧ Nx B1 w1 B2 w1 := fun w1 B1 h1 =>
    step_at (L := [Blk p (stc D P o (.slice (some ⟨g, 0, none⟩) K.length c)) 50, RowK (.slice (some ⟨g, 0, none⟩) K.length c) (x :: K.eraseIdx a), VecA K]) 2 rfl ⟨fr_blk _ _ _, fr_rowK _ _, fr_vec _, trivial⟩ h1 fun B2 h2 => ⟨B2, vec_sub h2 hm, Nx.refl _ _⟩
  have FIN := Lib.hid fin
  have hc1 : (a : Int) + 1 ≤ (c : Int) := by omega
  have ha : (a : Int) ≤ 2000000 := by omega
  have e1 : ((a : Int) + 1).toNat = a + 1 := by omega
  rcases Nat.eq_zero_or_pos a with h0 | h0
  · have hK0 : K1 = x :: K.eraseIdx a := by
      rw [← hE, h0]
      exact (List.take_append_drop 1 K1).symm
    rw [hK0] at R1
    have H0 := Lib.hid h0
    have hcd : ((c : Int) - 1).toNat = c - 1 := by omega
    by_cases hcc : c = 1
    · subst hcc
      clear hb hx hE hm fin hK hK1 hK0 h hg hlt hlx h0
      go_enter Try.func39, Try.ntmps39
      go_wp2_with fail
      refine (R1.out).mono ?_
      rintro e w2 ⟨rfl, B2, h2, n2⟩
      have d6 : w2.cell? ⟨p, 6, none⟩ = some (.slice (some ⟨g, 0, none⟩) K.length 1) := by
        obtain ⟨_, hq, _⟩ := part_at 0 rfl h2
        rw [cells_at hq.1]; rfl
      obtain ⟨B3, h3, n3⟩ := FIN.out w2 B2 h2
      have H3 := Lib.hid h3
      have N3 := Lib.hid (n2.trans n3)
      clear h2 n2 h3 n3 c6
      go_wp2_with fail
      refine (rev_none _ _ _ (by have := H0.out; omega) _).mono ?_
      rintro e w3 ⟨rfl, rfl⟩
      go_wp2_with fail
      go_end0
      exact ⟨rfl, B3, H3.out, N3.out⟩
    · skip
      clear hb hx hE hm fin hK hK1 hK0 h hg hlt hlx h0
      go_enter Try.func39, Try.ntmps39
      go_wp2_with fail
      refine (R1.out).mono ?_
      rintro e w2 ⟨rfl, B2, h2, n2⟩
      have d6 : w2.cell? ⟨p, 6, none⟩ = some (.slice (some ⟨g, 0, none⟩) K.length c) := by
        obtain ⟨_, hq, _⟩ := part_at 0 rfl h2
        rw [cells_at hq.1]; rfl
      obtain ⟨B3, h3, n3⟩ := FIN.out w2 B2 h2
      have H3 := Lib.hid h3
      have N3 := Lib.hid (n2.trans n3)
      clear h2 n2 h3 n3 c6
      go_wp2_with fail
      refine (rev_none _ _ _ (by have := H0.out; omega) _).mono ?_
      rintro e w3 ⟨rfl, rfl⟩
      go_wp2_with fail
      go_end0
      exact ⟨rfl, B3, H3.out, N3.out⟩
  · have r2 : ∀ w2 B2, stars [Blk p (stc D P o (.slice (some ⟨g, 0, none⟩) K.length c)) 50, RowK (.slice (some ⟨g, 0, none⟩) K.length c) K1, VecA K] w2 B2 → Calls Try.prog 52 #[.slice (some ⟨g, 1 * 2, none⟩) a (c - 1)] w2 (Does w2 B2 (stars [Blk p (stc D P o (.slice (some ⟨g, 0, none⟩) K.length c)) 50, RowK (.slice (some ⟨g, 0, none⟩) K.length c) (x :: K.eraseIdx a), VecA K]) (.tuple #[])) := fun w2 B2 h2 => by
      refine does_at (L := [Blk p (stc D P o (.slice (some ⟨g, 0, none⟩) K.length c)) 50, RowK (.slice (some ⟨g, 0, none⟩) K.length c) K1, VecA K]) (Q := RowK (.slice (some ⟨g, 0, none⟩) K.length c) (x :: K.eraseIdx a)) 1 rfl ⟨fr_blk _ _ _, fr_rowK _ _, fr_vec _, trivial⟩ h2 fun B1 h1 => ?_
      rw [← hK1] at h1 ⊢
      have := rev_does (g := g) (c := c) (K := K1) 1 a (c - 1) (by omega) (by omega) w2 B1 h1
      rw [hE] at this
      exact this
    have R2 := Lib.hid r2
    have hcc : ¬ c = 1 := by omega
    have hcd : ((c : Int) - 1).toNat = c - 1 := by omega
    clear hb hx hE hm fin hK hK1 h hg hlt hlx r2
    go_enter Try.func39, Try.ntmps39
    go_wp2_with fail
    refine (R1.out).mono ?_
    rintro e w2 ⟨rfl, B2, h2, n2⟩
    have d6 : w2.cell? ⟨p, 6, none⟩ = some (.slice (some ⟨g, 0, none⟩) K.length c) := by
      obtain ⟨_, hq, _⟩ := part_at 0 rfl h2
      rw [cells_at hq.1]; rfl
    have H2 := Lib.hid h2
    have N2 := Lib.hid n2
    clear h2 n2 c6
    go_wp2_with fail
    refine (R2.out _ _ H2.out).mono ?_
    rintro e w3 ⟨rfl, B3, h3, n3⟩
    obtain ⟨B4, h4, n4⟩ := FIN.out w3 B3 h3
    have H4 := Lib.hid h4
    have N4 := Lib.hid ((N2.out.trans n3).trans n4)
    clear h3 n3 h4 n4
    go_wp2_with fail
    go_end0
    exact ⟨rfl, B4, H4.out, N4.out⟩
end Go.Proofs.Ytibajmjplpnbmaa
