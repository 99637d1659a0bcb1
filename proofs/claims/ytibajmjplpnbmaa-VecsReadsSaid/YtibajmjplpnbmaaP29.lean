/- In one text: VcRead. -/
import Derived.Test.YtibajmjplpnbmaaP20
import Derived.Test.YtibajmjplpnbmaaP28
import Derived.IntWalk
/- The program's store: read. -/
namespace Go.Proofs.Ytibajmjplpnbmaa
open Go.RowKit FsPlain OctPlain DsPlain
set_option linter.unusedVariables false
set_option linter.unusedSimpArgs false
set_option maxRecDepth 20000
/-- What holds of what a store is of. -/
structure So.ok (o : So) : Prop where
  nm1 : o.nm.size ≤ 24
  nm2 : rightB o.nm.data.toList = true
  r1 : 1 ≤ o.room
  r2 : o.room ≤ 9223372036854775807
  n1 : 1 ≤ o.n
  n2 : o.n ≤ 1048576
  d1 : 1 ≤ o.d
  d2 : o.d ≤ 4096
  z : 10 + o.n * (o.d * 4) ≤ 16777216
/-- The bytes that are read for a vector. -/
def rawN (s : St) (o : So) (i : Nat) : List UInt8 × Int := readR s o.nm.data.toList (10 + i * (o.d * 4)) (o.d * 4)
/-- What reading a vector answers. -/
def readN (s : St) (o : So) (i : Nat) : List Int × Int := if (rawN s o i).2 = 0 then (if vB (bs (rawN s o i).1) o.d = true then (vL (bs (rawN s o i).1) o.d, 0) else ([], 7)) else ([], (rawN s o i).2)
/-- A new row of numbers, behind a step that left these parts. -/
def GotV (w : World) (B : Nat → Prop) (P : List Asn) (l : List Int) (e : Int) (x : Ending) (w' : World) : Prop :=
  ∃ v w1 B1, x = .returned (.tuple #[v, .int .i64 e]) ∧ stars P w1 B1 ∧ Nx B w B1 w1 ∧ w'.ownsRow w1.heap.size 3 1 v l.length (ints l) ∧ Gr w1 w'
theorem gotV_none {w w1 w' : World} {B B1 : Nat → Prop} {P : List Asn} {e : Int} (h : stars P w1 B1) (n : Nx B w B1 w1) (g : Gr w1 w') : GotV w B P [] e (.returned (.tuple #[.slice none 0 0, .int .i64 e])) w' :=
  ⟨_, w1, B1, rfl, h, n, World.ownsRow_nil _ _ _ _, g⟩
def sdv (p D P : Nat) (o : So) (vh : Value) (K : List Kp) (s : St) : List Asn := [Blk p (stc D P o vh) 50, RowK vh K, VecA K, DiskA D s]
theorem frs_sdv (p D P : Nat) (o : So) (vh : Value) (K : List Kp) (s : St) : Frs (sdv p D P o vh K s) := ⟨fr_blk _ _ _, fr_rowK _ _, fr_vec _, fr_disk _ _, trivial⟩
theorem sdv_blk {p D P : Nat} {o : So} {vh : Value} {K : List Kp} {s : St} {w : World} {B : Nat → Prop} (h : stars (sdv p D P o vh K s) w B) : w.heap[p]? = some (.cells (stc D P o vh) 50 (0, 0)) := by
  obtain ⟨_, h, _⟩ := part_at 0 rfl h
  exact h.1
/-- The cells of the store that are read. -/
def StAt (p D : Nat) (o : So) (w : World) : Prop := w.cell? ⟨p, 0, none⟩ = some (.pointer (some ⟨D, 0, none⟩)) ∧ w.cell? ⟨p, 2, none⟩ = some (.string o.nm) ∧ w.cell? ⟨p, 5, none⟩ = some (.int .i64 (o.d : Nat))
theorem st_at {p D P : Nat} {o : So} {vh : Value} {w : World} (hb : w.heap[p]? = some (.cells (stc D P o vh) 50 (0, 0))) : StAt p D o w := ⟨by rw [cells_at hb]; rfl, by rw [cells_at hb]; rfl, by rw [cells_at hb]; rfl⟩
set_option maxHeartbeats 4000000 in
theorem vread_c (p D P : Nat) (o : So) (ho : o.ok) (vh : Value) (K : List Kp) (s : St) (i : Nat) (hi : i < o.n) (hk : s.calls ≤ 1000000000000) (w : World) (B : Nat → Prop) (h : stars (sdv p D P o vh K s) w B) :
    Calls Try.prog 53 #[.pointer (some ⟨p, 0, none⟩), .int .i64 (i : Nat)] w (GotV w B (sdv p D P o vh K s.call) (readN s o i).1 (readN s o i).2) := by
  obtain ⟨a, ha⟩ : ∃ a, a = 10 + i * (o.d * 4) := ⟨_, rfl⟩
  obtain ⟨q, hq⟩ : ∃ q, q = o.d * 4 := ⟨_, rfl⟩
  have hroom := Nat.mul_le_mul_right (o.d * 4) (show i + 1 ≤ o.n by omega)
  rw [Nat.add_mul, Nat.one_mul] at hroom
  have hz := ho.z
  have hd1 := ho.d1
  have hd2 := ho.d2
  have hn2 := ho.n2
  have ha2 : a + q ≤ 16777216 := by omega
  obtain ⟨t, ht⟩ : ∃ t, t = bs (rawN s o i).1 := ⟨_, rfl⟩
  obtain ⟨er, her⟩ : ∃ er, er = (rawN s o i).2 := ⟨_, rfl⟩
  have K0 : ∀ u, Gr w u → StAt p D o u := fun u g => st_at (sdv_blk (stars_gr (frs_sdv _ _ _ _ _ _ _) h g))
  have CR : ∀ u, Gr w u → Calls Try.prog 34 #[.pointer (some ⟨D, 0, none⟩), .string o.nm, .int .i64 (a : Nat), .int .i64 (q : Nat)] u fun e w' => e = .returned (.tuple #[.string t, .int .i64 er]) ∧ (∃ B', stars (sdv p D P o vh K s.call) w' B' ∧ Nx B w B' w') ∧ StAt p D o w' := fun u g => by
    rw [ht, her]
    unfold rawN
    rw [← ha, ← hq]
    have C := does_at (f := 34) (Q := DiskA D s.call) 3 rfl (frs_sdv _ _ _ _ _ _ _) (stars_gr (frs_sdv _ _ _ _ _ _ _) h g) fun B2 h2 => d_read D s o.nm a q (by have := ho.nm1; omega) ho.nm2 hk (by omega) (by omega) u B2 h2
    refine C.mono ?_
    rintro e w' ⟨he, B', h', n'⟩
    exact ⟨he, ⟨B', h', (Nx.gr g).trans n'⟩, st_at (sdv_blk h')⟩
  have P1 : ∀ u, Calls Try.prog 58 #[.int .i64 (o.d : Nat), .int .i64 (i : Nat)] u fun e w' => e = .returned (.int .i64 (a : Nat)) ∧ u = w' := fun u => by
    rw [ha, ← pl_nat ⟨hd1, hd2⟩ (show i ≤ 1048576 by omega)]
    exact place10_c _ _ (by unfold I64; omega) (by unfold I64; omega) u
  have P2 : ∀ u, Calls Try.prog 58 #[.int .i64 (o.d : Nat), .int .i64 ((i : Nat) + 1)] u fun e w' => e = .returned (.int .i64 ((a + q : Nat) : Int)) ∧ u = w' := fun u => by
    have e1 : a + q = 10 + (i + 1) * (o.d * 4) := by rw [Nat.add_mul, Nat.one_mul]; omega
    rw [e1, ← pl_nat ⟨hd1, hd2⟩ (show i + 1 ≤ 1048576 by omega)]
    exact place10_c _ _ (by unfold I64; omega) (by unfold I64; omega) u
  have V := fun u => vector_c t (o.d : Nat) (by unfold I64; omega) u
  obtain ⟨R, hR⟩ : ∃ R, R = readN s o i := ⟨_, rfl⟩
  rw [← hR]
  unfold readN at hR
  rw [← ht, ← her] at hR
  have ai : ((a + q : Nat) : Int) - (a : Nat) = (q : Nat) := by omega
  have b1 : ((a + q : Nat) : Int) ≤ 16777216 := by omega
  have b2 : (q : Int) ≤ 16777216 := by omega
  have b3 : (i : Int) ≤ 1048576 := by omega
  obtain ⟨aq, haq⟩ : ∃ aq : Nat, aq = a + q := ⟨_, rfl⟩
  rw [← haq] at P2 ai b1
  have S0 : ∀ u, Gr w u → Gr w u ∧ StAt p D o u := fun u g => ⟨g, K0 u g⟩
  have KS := Lib.hid S0
  have CRH := Lib.hid CR
  have P1H := Lib.hid (fun u (g : Gr w u) => (P1 u).mono (fun e w' (hh : _ ∧ u = w') => (⟨hh.1, by rw [← hh.2]; exact S0 u g⟩ : _ ∧ Gr w w' ∧ StAt p D o w')))
  have P2H := Lib.hid (fun u (g : Gr w u) => (P2 u).mono (fun e w' (hh : _ ∧ u = w') => (⟨hh.1, by rw [← hh.2]; exact S0 u g⟩ : _ ∧ Gr w w' ∧ StAt p D o w')))
  have VH := Lib.hid V
  have HR := Lib.hid hR
  have hw1 : IntKind.i64.wrap ((i : Int) + 1) = (i : Int) + 1 := IntWalk.i64_in _ (by omega)
  have hw2 : IntKind.i64.wrap (q : Int) = (q : Int) := IntWalk.i64_in _ (by omega)
  have gU := Gr.refl w
  have gUd : Gr w w.drew := Below.drew gU
  clear h S0 K0 CR ht her ha hq hroom hz hd1 hd2 hn2 P1 P2 V hR haq hk
  go_enter Try.func53, Try.ntmps53
  go_wp2_with fail
  go_region_held3 (fun w' => Gr w w' ∧ w'.cell? ⟨p, 0, none⟩ = some (.pointer (some ⟨D, 0, none⟩)) ∧ w'.cell? ⟨p, 2, none⟩ = some (.string o.nm) ∧ w'.cell? ⟨p, 5, none⟩ = some (.int .i64 (o.d : Nat))) (first | exact KS.out _ gUd | exact KS.out _ (by assumption) | assumption | go_keep)
    ((first
      | (go_at_call 58; (with_reducible refine (P1H.out _ (by assumption)).mono ?_); rintro e t2 ⟨rfl, hst, hks⟩)
      | (go_at_call 58; (with_reducible refine (P2H.out _ (by assumption)).mono ?_); rintro e t2 ⟨rfl, hst, hks⟩)))
  have g1 := hst
  have g1d : Gr w t2.drew := Below.drew g1
  clear gUd
  go_wp2_with fail
  go_region_held3 (fun w' => w'.cell? ⟨p, 0, none⟩ = some (.pointer (some ⟨D, 0, none⟩)) ∧ w'.cell? ⟨p, 2, none⟩ = some (.string o.nm) ∧ w'.cell? ⟨p, 5, none⟩ = some (.int .i64 (o.d : Nat))) (first | exact (KS.out _ g1d).2 | exact (KS.out _ (by assumption)).2 | assumption | go_keep)
    ((go_at_call 34; (with_reducible refine (CRH.out _ (by assumption)).mono ?_); rintro e t3 ⟨rfl, hst3, hks3⟩))
  obtain ⟨B2, h2, n2⟩ := hst3
  obtain ⟨k0, k2, k5⟩ := hks3
  have HS := Lib.hid h2
  have HN := Lib.hid n2
  have hR := HR.out
  by_cases h0 : er = 0
  · subst h0
    rw [if_pos rfl] at hR
    cases hv : vB t (o.d : Int)
    · rw [hv] at hR VH
      have HR2 := Lib.hid (show R = ([], 7) by rw [hR]; rfl)
      clear h2 n2 hR hv HR
      go_wp2_with fail
      refine (VH.out _).mono ?_; rintro e u4 ⟨v, rfl, ho4, g4⟩
      obtain ⟨va, vc, hve, _⟩ := own_row ho4
      subst hve
      clear ho4
      go_wp2_with fail
      go_ret2
      rw [HR2.out]
      exact gotV_none HS.out HN.out g4
    · rw [hv] at hR VH
      have HR2 := Lib.hid (show R = (vL t (o.d : Int), 0) by rw [hR]; rfl)
      clear h2 n2 hR hv HR
      go_wp2_with fail
      refine (VH.out _).mono ?_; rintro e u4 ⟨v, rfl, ho4, g4⟩
      obtain ⟨va, vc, hve, _⟩ := own_row ho4
      subst hve
      have HO := Lib.hid ho4
      clear ho4
      go_wp2_with fail
      go_ret2
      rw [HR2.out]
      exact ⟨_, _, B2, rfl, HS.out, HN.out, HO.out, g4⟩
  · rw [if_neg h0] at hR
    have HR2 := Lib.hid hR
    have t0 : (er != 0) = true := by simpa using h0
    clear h2 n2 hR HR
    go_wp2_with fail
    go_ret2
    rw [HR2.out]
    exact gotV_none HS.out HN.out (Gr.refl _)
end Go.Proofs.Ytibajmjplpnbmaa
