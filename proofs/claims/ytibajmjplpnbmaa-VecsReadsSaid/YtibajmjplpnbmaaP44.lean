/- In one text: VcOpen. -/
import Derived.Test.YtibajmjplpnbmaaP37
import Derived.Test.YtibajmjplpnbmaaP43
/- The program's store: Open. -/
namespace Go.Proofs.Ytibajmjplpnbmaa
open Go.RowKit FsPlain OctPlain DsPlain
set_option linter.unusedVariables false
set_option linter.unusedSimpArgs false
set_option maxRecDepth 20000
/-- What Open tells: the disk and the budget then, the error, what the store is of. -/
structure Opd where
  s : St
  b : Bu
  e : Int
  o : So
def opdN (s : St) (b : Bu) (nm : ByteArray) (c : Int) : Opd :=
  if c < 1 then ⟨s, b, 1, ⟨nm, 0, 0, 0⟩⟩
  else if ¬ b.takeE c = 0 then ⟨s, b.take c, b.takeE c, ⟨nm, 0, 0, 0⟩⟩
  else if ¬ (shpN s nm.data.toList).e = 0 then ⟨(shpN s nm.data.toList).s, (b.take c).give c, (shpN s nm.data.toList).e, ⟨nm, 0, 0, 0⟩⟩
  else ⟨(shpN s nm.data.toList).s, b.take c, 0, ⟨nm, c.toNat, (shpN s nm.data.toList).n.toNat, (shpN s nm.data.toList).d.toNat⟩⟩
/-- What is told of a file that is right. -/
theorem shpN_ok {s : St} (h : s.ok) {nm : List UInt8} (he : (shpN s nm).e = 0) : ∃ n d : Nat, (shpN s nm).n = n ∧ (shpN s nm).d = d ∧ (1 ≤ n ∧ n ≤ 1048576) ∧ (1 ≤ d ∧ d ≤ 4096) ∧ 10 + n * (d * 4) ≤ 16777216 := by
  obtain ⟨z0, z1⟩ := sizeR_le h nm
  unfold shpN at he ⊢
  split at he
  · exact absurd he (by assumption)
  · rename_i h1
    rw [if_neg h1]
    split at he
    · cases he
    · rename_i h2
      rw [if_neg h2]
      split at he
      · exact absurd he (by assumption)
      · rename_i h3
        rw [if_neg h3]
        dsimp only at he ⊢
        generalize (sizeR s nm).1 = z at *
        generalize bs (readR s.call nm 0 10).1 = t at *
        have hb : shB t z = true := by
          cases hh : shB t z with
          | true => rfl
          | false => unfold she at he; rw [hh] at he; cases he
        obtain ⟨p1, _, p3, p4, p5⟩ := sh_parts hb
        unfold nB at p3; rw [decide_eq_true_iff] at p3
        unfold dB at p4; rw [decide_eq_true_iff] at p4
        refine ⟨(shN t).toNat, (shD t).toNat, ?_, ?_, by omega, by omega, ?_⟩
        · unfold shn; rw [if_pos hb]; omega
        · unfold shd; rw [if_pos hb]; omega
        · obtain ⟨n, hn⟩ : ∃ n : Nat, shN t = (n : Int) := ⟨(shN t).toNat, by omega⟩
          obtain ⟨d, hd⟩ : ∃ d : Nat, shD t = (d : Int) := ⟨(shD t).toNat, by omega⟩
          rw [hn, hd] at p5 ⊢
          have := size_cast n d
          simp only [Int.toNat_natCast]
          omega
theorem opdN_ok {s : St} (h : s.ok) {b : Bu} {nm : ByteArray} {c : Int} (hn : nm.size ≤ 24) (hm : rightB nm.data.toList = true) (hc : c ≤ 9223372036854775807) (he : (opdN s b nm c).e = 0) : (opdN s b nm c).o.ok := by
  unfold opdN at he ⊢
  split at he
  · cases he
  · rename_i h1
    rw [if_neg h1]
    split at he
    · exact absurd he (by assumption)
    · rename_i h2
      rw [if_neg h2]
      split at he
      · exact absurd he (by assumption)
      · rename_i h3
        rw [if_neg h3]
        obtain ⟨n, d, e1, e2, b1, b2, b3⟩ := shpN_ok h (Decidable.not_not.1 h3)
        dsimp only
        rw [e1, e2]
        exact ⟨hn, hm, by show 1 ≤ c.toNat; omega, by show c.toNat ≤ _; omega, by simpa using b1.1, by simpa using b1.2, by simpa using b2.1, by simpa using b2.2, by simpa using b3⟩
/-- What the program's Open leaves. -/
def VpMade (D P : Nat) (w : World) (B : Nat → Prop) (R : Opd) (e : Ending) (w' : World) : Prop :=
  (R.e = 0 ∧ ∃ x, Does w B (stars [StA x D P R.o [], DiskA D R.s, BuA P R.b]) (.tuple #[.pointer (some ⟨x, 0, none⟩), .int .i64 0]) e w') ∨
  (R.e ≠ 0 ∧ Does w B (stars [DiskA D R.s, BuA P R.b]) (.tuple #[.pointer none, .int .i64 R.e]) e w')
theorem frs_dbV (D P : Nat) (s : St) (b : Bu) : Frs [DiskA D s, BuA P b] := ⟨fr_disk _ _, fr_bu _ _, trivial⟩
/-- A new store beside its disk and its budget. -/
theorem st_born {D P : Nat} {s : St} {b : Bu} {o : So} {w : World} {B : Nat → Prop} (h : stars [DiskA D s, BuA P b] w B) :
    ∃ B', stars [StA w.heap.size D P o [], DiskA D s, BuA P b] (w.alloc (.cells (stc D P o (.slice none 0 0)) 50)) B' ∧ Nx B w B' (w.alloc (.cells (stc D P o (.slice none 0 0)) 50)) := by
  have ga : Gr w (w.alloc (.cells (stc D P o (.slice none 0 0)) 50)) := (Gr.refl w).alloc (Nat.le_refl _) _
  refine part_new (P := StA w.heap.size D P o []) (B' := fun b => b = w.heap.size) (frs_dbV _ _ _ _) h ga ⟨.slice none 0 0, [], rfl, fun b => b = w.heap.size, fun _ => False, ⟨heap_alloc_new w _, fun _ => Iff.rfl⟩, ⟨fun _ => False, fun _ => False, ⟨ownK_nil _, (fun b hb => by simp [Value.ownBlock] at hb), fun b hb => hb.elim⟩, ⟨fun _ => False, fun _ => False, vec_nil _, (fun b hb => hb), (fun b hb => hb.elim), fun b => by simp⟩, (fun b hb => hb.elim), fun b => by simp⟩, (fun b _ hb => hb.elim), fun b => by simp⟩ (fun b hb => by omega)
set_option maxHeartbeats 4000000 in
theorem vopenS_c (D P : Nat) (s : St) (b : Bu) (nm : ByteArray) (c : Int) (hn : nm.size ≤ 24) (hm : rightB nm.data.toList = true) (hk : s.calls ≤ 100000000000) (w : World) (B : Nat → Prop) (h : stars [DiskA D s, BuA P b] w B) :
    Calls Try.prog 12 #[.pointer (some ⟨D, 0, none⟩), .pointer (some ⟨P, 0, none⟩), .string nm, .int .i64 c] w (VpMade D P w B (opdN s b nm c)) := by
  obtain ⟨R, hR⟩ : ∃ R, R = opdN s b nm c := ⟨_, rfl⟩
  rw [← hR]
  unfold opdN at hR
  obtain ⟨_, hd, _⟩ := part_at 0 rfl h
  have hs : s.ok := hd.1
  have H := Lib.hid h
  by_cases hc : c < 1
  · rw [if_pos hc] at hR
    subst hR
    clear h hd
    go_enter Try.func12, Try.ntmps12
    go_wp2_with fail
    go_ret2
    exact .inr ⟨by simp, rfl, B, H.out, Nx.refl _ _⟩
  · rw [if_neg hc] at hR
    obtain ⟨c1, hc1⟩ : ∃ c1, c1 = b.takeE c := ⟨_, rfl⟩
    obtain ⟨⟨s1, sn, sd, e1⟩, hS1⟩ : ∃ X, X = shpN s nm.data.toList := ⟨_, rfl⟩
    rw [← hc1, ← hS1] at hR
    dsimp only at hR
    have CT := does_at (f := 29) 1 rfl (frs_dbV _ _ _ _) h fun B2 h2 => bu_take P b c w B2 h2
    rw [← hc1] at CT
    have CTH := Lib.hid CT
    have CLH := Lib.hid (fun u => clone_c nm u (by omega))
    have CG := Lib.hid (fun s2 w2 B2 (h2 : stars [DiskA D s2, BuA P (b.take c)] w2 B2) => does_at (f := 31) (Q := BuA P ((b.take c).give c)) 1 rfl (frs_dbV _ _ _ _) h2 fun B3 h3 => bu_give P (b.take c) c w2 B3 h3)
    have CS : ∀ w2 B2, stars [DiskA D s, BuA P (b.take c)] w2 B2 → Calls Try.prog 30 #[.pointer (some ⟨D, 0, none⟩), .string nm] w2 (Does w2 B2 (stars [DiskA D s1, BuA P (b.take c)]) (.tuple #[.int .i64 sn, .int .i64 sd, .int .i64 e1])) := fun w2 B2 h2 => by
      refine does_at (L := [DiskA D s, BuA P (b.take c)]) (Q := DiskA D s1) 0 rfl (frs_dbV _ _ _ _) h2 fun B3 h3 => ?_
      have := vshape_c D s nm hn hm hk w2 B3 h3
      rw [← hS1] at this
      exact this
    have CSH := Lib.hid CS
    have HS1 := Lib.hid hS1
    have HR := Lib.hid hR
    have HSO := Lib.hid hs
    clear CT CS hc1 hS1 hR hn hm hk h hs hd
    by_cases h1 : c1 = 0
    · subst h1
      by_cases h2 : e1 = 0
      · subst h2
        obtain rfl : R = ⟨s1, b.take c, 0, ⟨nm, c.toNat, sn.toNat, sd.toNat⟩⟩ := by have := HR.out; simpa using this
        obtain ⟨n, d, en, ed, _, _, _⟩ := shpN_ok HSO.out (by rw [← HS1.out])
        rw [← HS1.out] at en ed
        dsimp only at en ed
        subst en
        subst ed
        obtain ⟨k, rfl⟩ : ∃ k : Nat, c = (k : Int) := ⟨c.toNat, by omega⟩
        clear HR HS1
        go_enter Try.func12, Try.ntmps12
        go_wp2_with fail
        refine CTH.out.mono ?_; rintro e w2 hd
        obtain ⟨rfl, B2, h2, n2⟩ := hd
        have C2 := Lib.hid (CSH.out w2 B2 h2)
        have N2 := Lib.hid n2
        clear h2 n2 CTH
        go_wp2_with fail
        refine C2.out.mono ?_; rintro e w3 hd
        obtain ⟨rfl, B3, h3, n3⟩ := hd
        have H3 := Lib.hid h3
        have N3 := Lib.hid (N2.out.trans n3)
        clear h3 n3 C2
        go_wp2_with fail
        refine (CLH.out _).mono ?_; rintro e u ⟨rfl, gu⟩
        have GU := Lib.hid gu
        clear gu
        go_wp2_with fail
        go_ret2
        obtain ⟨B6, h6, n6⟩ := st_born (o := ⟨nm, k, n, d⟩) (stars_gr (frs_dbV _ _ _ _) H3.out GU.out)
        refine .inl ⟨rfl, u.heap.size, rfl, B6, ?_, ((N3.out.trans (Nx.gr GU.out)).trans n6)⟩
        simp only [Int.toNat_natCast]
        exact h6
      · have t1 : (e1 == 0) = false := by simpa using h2
        have t2 : (e1 != 0) = true := by simpa using h2
        have HE := Lib.hid h2
        obtain rfl : R = ⟨s1, (b.take c).give c, e1, ⟨nm, 0, 0, 0⟩⟩ := by have := HR.out; simpa [h2] using this
        clear h2 HR HS1
        go_enter Try.func12, Try.ntmps12
        go_wp2_with fail
        refine CTH.out.mono ?_; rintro e w2 hd
        obtain ⟨rfl, B2, h2, n2⟩ := hd
        have C2 := Lib.hid (CSH.out w2 B2 h2)
        have N2 := Lib.hid n2
        clear h2 n2 CTH
        go_wp2_with fail
        refine C2.out.mono ?_; rintro e w3 hd
        obtain ⟨rfl, B3, h3, n3⟩ := hd
        have CG1 := Lib.hid (CG.out s1 w3 B3 h3)
        have N3 := Lib.hid (N2.out.trans n3)
        clear h3 n3 C2
        go_wp2_with fail
        refine CG1.out.mono ?_; rintro e w5 hd
        obtain ⟨rfl, B5, h5, n5⟩ := hd
        have H5 := Lib.hid h5
        have N5 := Lib.hid (N3.out.trans n5)
        clear h5 n5 CG1
        go_wp2_with fail
        go_ret2
        exact .inr ⟨HE.out, rfl, B5, H5.out, N5.out⟩
    · have t1 : (c1 == 0) = false := by simpa using h1
      have t2 : (c1 != 0) = true := by simpa using h1
      have HE := Lib.hid h1
      obtain rfl : R = ⟨s, b.take c, c1, ⟨nm, 0, 0, 0⟩⟩ := by have := HR.out; simpa [h1] using this
      clear h1 HR HS1
      go_enter Try.func12, Try.ntmps12
      go_wp2_with fail
      refine CTH.out.mono ?_; rintro e w2 hd
      obtain ⟨rfl, B2, h2, n2⟩ := hd
      have H2 := Lib.hid h2
      have N2 := Lib.hid n2
      clear h2 n2 CTH
      go_wp2_with fail
      go_ret2
      exact .inr ⟨HE.out, rfl, B2, H2.out, N2.out⟩
end Go.Proofs.Ytibajmjplpnbmaa
