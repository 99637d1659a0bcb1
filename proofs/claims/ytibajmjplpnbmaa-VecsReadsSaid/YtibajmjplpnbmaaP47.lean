/- In one text: VcReads. -/
import Derived.Test.YtibajmjplpnbmaaP46
/- What VecsReads walks with: a store beside its disk and its budget. -/
namespace Go.Proofs.Ytibajmjplpnbmaa
open Go.RowKit FsPlain OctPlain DsPlain
set_option linter.unusedVariables false
set_option linter.unusedSimpArgs false
set_option maxRecDepth 20000
def v3l (x D P : Nat) (o : So) (hs : List (Int × List Int)) (s : St) (b : Bu) : List Asn := [StA x D P o hs, DiskA D s, BuA P b]
theorem frs_v3 (x D P : Nat) (o : So) (hs : List (Int × List Int)) (s : St) (b : Bu) : Frs (v3l x D P o hs s b) := ⟨fr_st _ _ _ _ _, fr_disk _ _, fr_bu _ _, trivial⟩
/-- What Get leaves beside the budget. -/
def GetV3 (x D P : Nat) (o : So) (hs : List (Int × List Int)) (s : St) (b : Bu) (i : Int) (w : World) (B : Nat → Prop) (e : Ending) (w' : World) : Prop :=
  ∃ v l er hs' s' B', AskS s o hs i l er hs' s' ∧ e = .returned (.tuple #[v, .int .i64 er]) ∧ LiesI w' v l ∧ stars (OwnI v l :: v3l x D P o hs' s' b) w' B' ∧ Nx B w B' w'
theorem v3_get (x D P : Nat) (o : So) (ho : o.ok) (hs : List (Int × List Int)) (hr : hs.length ≤ o.room) (hl : hs.length ≤ 1500000) (hz : ∀ x ∈ hs, x.2.length ≤ 1000000) (s : St) (hk : s.calls ≤ 1000000000000) (b : Bu) (i : Int) (w : World) (B : Nat → Prop) (h : stars (v3l x D P o hs s b) w B) :
    Calls Try.prog 16 #[.pointer (some ⟨x, 0, none⟩), .int .i64 i] w (GetV3 x D P o hs s b i w B) := by
  obtain ⟨B1, h1, k1⟩ := pre_nx [StA x D P o hs, DiskA D s] (M := [BuA P b]) ⟨fr_bu _ _, trivial⟩ h
  refine (vget_c x D P o ho hs hr hl hz s hk i w B1 h1).mono ?_
  rintro e w' ⟨v, l, er, hs', s', B', ha, rfl, h2, n2⟩
  obtain ⟨_, hv, _⟩ := part_at 0 rfl h2
  obtain ⟨B3, h3, n3⟩ := k1 _ _ _ h2 n2
  exact ⟨v, l, er, hs', s', B3, ha, rfl, ownI_lies hv, h3, n3⟩
/-- Get of what the dataset has. -/
def GotV3 (L : List (List Int)) (x D P : Nat) (o : So) (s : St) (b : Bu) (k : Nat) (y : List Int) (w : World) (B : Nat → Prop) (e : Ending) (w' : World) : Prop :=
  ∃ v r s' B', e = .returned (.tuple #[v, .int .i64 0]) ∧ LiesI w' v y ∧ VcOk L o.room (((k : Int), y) :: r) ∧ Stands s' o.nm.data.toList (layS L) ∧ s'.calls ≤ s.calls + 1 ∧ stars (OwnI v y :: v3l x D P o (((k : Int), y) :: r) s' b) w' B' ∧ Nx B w B' w'
theorem v3_got {L : List (List Int)} (hR : right L = true) (hm : ∀ l ∈ L, l.length ≤ 1000000) (x D P : Nat) (o : So) (ho : o.ok) (hn : o.n = L.length) (hd : o.d = dimN L) (hrm : o.room ≤ 1500000) (hs : List (Int × List Int)) (hok : VcOk L o.room hs) (s : St) (hst : Stands s o.nm.data.toList (layS L)) (hk : s.calls ≤ 1000000000000) (b : Bu) (k : Nat) (y : List Int) (hy : L[k]? = some y) (w : World) (B : Nat → Prop) (h : stars (v3l x D P o hs s b) w B) :
    Calls Try.prog 16 #[.pointer (some ⟨x, 0, none⟩), .int .i64 (k : Int)] w (GotV3 L x D P o s b k y w B) := by
  refine (v3_get x D P o ho hs hok.room (by have := hok.room; omega) (vcOk_len hok hm) s hk b (k : Int) w B h).mono ?_
  rintro e w' ⟨v, l, er, hs', s', B', ha, rfl, hv, h2, n2⟩
  obtain ⟨rfl, rfl, ok2, ⟨r, rfl⟩, st2, c2⟩ := ask_stands hst hR hn hd ho.r1 hok hy ha
  exact ⟨v, r, s', B', rfl, hv, ok2, st2, c2, h2, n2⟩
/-- Get of what there is not. -/
theorem v3_none {L : List (List Int)} (hm : ∀ l ∈ L, l.length ≤ 1000000) (x D P : Nat) (o : So) (ho : o.ok) (hn : o.n = L.length) (hrm : o.room ≤ 1500000) (hs : List (Int × List Int)) (hok : VcOk L o.room hs) (s : St) (hk : s.calls ≤ 1000000000000) (b : Bu) (w : World) (B : Nat → Prop) (h : stars (v3l x D P o hs s b) w B) :
    Calls Try.prog 16 #[.pointer (some ⟨x, 0, none⟩), .int .i64 (o.n : Int)] w fun e w' => ∃ a c n, e = .returned (.tuple #[.slice a n c, .int .i64 10]) ∧ ∃ B', stars (v3l x D P o hs s b) w' B' ∧ Nx B w B' w' := by
  refine (v3_get x D P o ho hs hok.room (by have := hok.room; omega) (vcOk_len hok hm) s hk b (o.n : Int) w B h).mono ?_
  rintro e w' ⟨v, l, er, hs', s', B', ha, rfl, hv, h2, n2⟩
  obtain ⟨a, c, rfl, _⟩ := hv
  cases ha with
  | range _ =>
    obtain ⟨B4, h4, n4⟩ := stars_drop (L := v3l x D P o hs s b) h2
    exact ⟨_, _, _, rfl, B4, h4, n2.trans n4⟩
  | held a _ hh =>
    obtain ⟨k, e1, e2⟩ := hok.of _ (List.mem_of_getElem? hh)
    have := (List.getElem?_eq_some_iff.1 e2).1
    dsimp only at e1
    omega
  | read k e _ _ _ => omega
  | fail k e _ _ _ => omega
theorem v3_open {x D P : Nat} {o : So} {hs : List (Int × List Int)} {s : St} {b : Bu} {w : World} {B : Nat → Prop} (h : stars (v3l x D P o hs s b) w B) : ∃ vh K, abK K = hs ∧ w.heap[x]? = some (.cells (stc D P o vh) 50 (0, 0)) ∧ OwnK w vh K := by
  obtain ⟨_, ⟨vh, K, e, hh⟩, _⟩ := part_at 0 rfl h
  exact ⟨vh, K, e, sol_blk hh, sol_row hh⟩
theorem v3_n {x D P : Nat} {o : So} {hs : List (Int × List Int)} {s : St} {b : Bu} {w : World} {B : Nat → Prop} (h : stars (v3l x D P o hs s b) w B) :
    Calls Try.prog 13 #[.pointer (some ⟨x, 0, none⟩)] w fun e w' => e = .returned (.int .i64 (o.n : Int)) ∧ w = w' := by
  obtain ⟨vh, K, _, hb, _⟩ := v3_open h
  exact vn_c x (o.n : Int) w (by rw [cells_at hb]; rfl)
theorem v3_d {x D P : Nat} {o : So} {hs : List (Int × List Int)} {s : St} {b : Bu} {w : World} {B : Nat → Prop} (h : stars (v3l x D P o hs s b) w B) :
    Calls Try.prog 14 #[.pointer (some ⟨x, 0, none⟩)] w fun e w' => e = .returned (.int .i64 (o.d : Int)) ∧ w = w' := by
  obtain ⟨vh, K, _, hb, _⟩ := v3_open h
  exact vd_c x (o.d : Int) w (by rw [cells_at hb]; rfl)
theorem v3_held {x D P : Nat} {o : So} {hs : List (Int × List Int)} {s : St} {b : Bu} {w : World} {B : Nat → Prop} (h : stars (v3l x D P o hs s b) w B) (hl : hs.length ≤ 1500000) :
    Calls Try.prog 17 #[.pointer (some ⟨x, 0, none⟩)] w fun e w' => ∃ v, e = .returned v ∧ LiesI w' v (hs.map (·.1)) ∧ Gr w w' := by
  obtain ⟨vh, K, rfl, hb, hr⟩ := v3_open h
  refine (vheld_c x ⟨D, 0, none⟩ vh K (by rw [abK_length] at hl; exact hl) w (by rw [cells_at hb]; rfl) (by rw [cells_at hb]; rfl) hr).mono ?_
  rintro e w' ⟨v, rfl, ho, g⟩
  refine ⟨v, rfl, ?_, g⟩
  have e : (abK K).map (·.1) = idK K := by simp [abK, idK]
  rw [e]
  refine liesI_own (B := w.heap.size) ?_
  rw [show (idK K).length = K.length by simp [idK]]
  exact ho
theorem v3_check {L : List (List Int)} (hR : right L = true) (hz : (layS L).size ≤ 90000) {x D P : Nat} {o : So} {hs : List (Int × List Int)} {s : St} {b : Bu} {w : World} {B : Nat → Prop} (hn : o.nm.size ≤ 24) (hm : rightB o.nm.data.toList = true) (hst : Stands s o.nm.data.toList (layS L)) (hk : s.calls ≤ 100000000000) (h : stars (v3l x D P o hs s b) w B) :
    Calls Try.prog 15 #[.pointer (some ⟨D, 0, none⟩), .string o.nm] w (Does w B (stars (v3l x D P o hs s.call.call b)) (.int .i64 0)) := by
  have hc := chk_stands hst hR
  refine does_at (L := v3l x D P o hs s b) (Q := DiskA D s.call.call) 1 rfl (frs_v3 _ _ _ _ _ _ _) h fun B1 h1 => ?_
  have := vcheck_c D s o.nm hn hm hk (by rw [hst.size]; dsimp only; rw [Int.toNat_natCast, hst.call.1.read _ (Nat.le_refl _), List.length_take, Array.length_toList]; show min _ (layS L).size ≤ _; omega) w B1 h1
  rw [hc] at this
  exact this
theorem v3_close {x D P : Nat} {o : So} {hs : List (Int × List Int)} {s : St} {b : Bu} {w : World} {B : Nat → Prop} (h : stars (v3l x D P o hs s b) w B) :
    Calls Try.prog 19 #[.pointer (some ⟨x, 0, none⟩)] w (Does w B (stars [ShA x o.n o.d, BuA P (b.give (o.room : Nat)), DiskA D s]) (.tuple #[])) :=
  does_pre [StA x D P o hs, BuA P b] (L' := [ShA x o.n o.d, BuA P (b.give (o.room : Nat))]) (M := [DiskA D s]) ⟨fr_disk _ _, trivial⟩ (stars_perm (.cons _ (List.Perm.swap _ _ _)) h) fun B1 h1 => vclose_c x D P o hs b w B1 h1
/-- Open over a dataset. -/
theorem opd_stands {s : St} {b : Bu} {nm : ByteArray} {L : List (List Int)} (h : Stands s nm.data.toList (layS L)) (hR : right L = true) (c : Nat) (hc : 1 ≤ c) (hb : b.takeE (c : Int) = 0) : opdN s b nm (c : Int) = ⟨s.call.call, b.take (c : Int), 0, ⟨nm, c, L.length, dimN L⟩⟩ := by
  unfold opdN
  rw [if_neg (by omega), if_neg (by rw [hb]; decide), shp_stands h hR, if_neg (by simp)]
  simp only [Int.toNat_natCast]
theorem v3_make {L : List (List Int)} (hR : right L = true) (D P : Nat) (s : St) (b : Bu) (nm : ByteArray) (c : Nat) (hc : 1 ≤ c) (hb : b.takeE (c : Int) = 0) (hst : Stands s nm.data.toList (layS L)) (hn : nm.size ≤ 24) (hm : rightB nm.data.toList = true) (hk : s.calls ≤ 100000000000) (w : World) (B : Nat → Prop) (h : stars [DiskA D s, BuA P b] w B) :
    Calls Try.prog 12 #[.pointer (some ⟨D, 0, none⟩), .pointer (some ⟨P, 0, none⟩), .string nm, .int .i64 (c : Int)] w fun e w' => ∃ x, Does w B (stars (v3l x D P ⟨nm, c, L.length, dimN L⟩ [] s.call.call (b.take (c : Int)))) (.tuple #[.pointer (some ⟨x, 0, none⟩), .int .i64 0]) e w' := by
  have := vopenS_c D P s b nm (c : Int) hn hm hk w B h
  rw [opd_stands hst hR c hc hb] at this
  refine this.mono ?_
  rintro e w' (⟨_, x, hd⟩ | ⟨h0, _⟩)
  · exact ⟨x, hd⟩
  · exact absurd rfl h0
theorem o_ok {nm : ByteArray} {L : List (List Int)} {c : Nat} (hR : right L = true) (hc : 1 ≤ c) (hc2 : c ≤ 9223372036854775807) (hn : nm.size ≤ 24) (hm : rightB nm.data.toList = true) (hz : (layS L).size ≤ 16777216) : (⟨nm, c, L.length, dimN L⟩ : So).ok := by
  obtain ⟨r1, r2, _⟩ := right_parts hR
  exact ⟨hn, hm, hc, hc2, r1.1, r1.2, r2.1, r2.2, by rw [← lay_len hR]; exact hz⟩
end Go.Proofs.Ytibajmjplpnbmaa
