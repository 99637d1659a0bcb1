/- In one text: VcAwake. -/
import Derived.Test.YtibajmjplpnbmaaP47
/- The chapter's example; stores that nobody made. -/
namespace Go.Proofs.Ytibajmjplpnbmaa
open Go.RowKit FsPlain OctPlain DsPlain
set_option linter.unusedVariables false
set_option linter.unusedSimpArgs false
set_option maxRecDepth 20000
/-- A disk with the file a, which is empty; with these bytes. -/
def vsC (r : Int) : St := ⟨r, 1, -1, false, [⟨[97], [], 0⟩]⟩
def vsA (r : Int) (S : ByteArray) : St := ⟨r, 2, -1, false, [⟨[97], S.data.toList, 0⟩]⟩
theorem vs_create (r : Int) : createR (fresh r) nmA.data.toList = (vsC r, 0) := rfl
theorem vs_append (r : Int) (S : ByteArray) (h : (S.size : Int) ≤ r) : appendR (vsC r) nmA.data.toList S.data.toList = (vsA r S, 0) := by
  unfold appendR
  rw [if_neg (show ¬ (vsC r).call.down = true by simp [vsC, St.call])]
  have hg : (vsC r).get nmA.data.toList = some ⟨[97], [], 0⟩ := rfl
  rw [hg]
  have hu : used (vsC r).fs = 0 := rfl
  simp only [hu]
  rw [if_neg (by show ¬ r < ((0 : Nat) : Int) + (S.data.toList.length : Nat); rw [Array.length_toList]; show ¬ r < ((0 : Nat) : Int) + (S.size : Nat); omega)]
  rfl
theorem vs_stands (r : Int) (S : ByteArray) : Stands (vsA r S) nmA.data.toList S := ⟨⟨⟨[97], S.data.toList, 0⟩, rfl, rfl⟩, rfl, rfl⟩
/-- Two slices of one number in a slice. -/
theorem liesII_two (w : World) (x y : Int) (T U : TypeId) : LiesII (((w.alloc (.cells #[.int .i64 x] T)).alloc (.cells #[.int .i64 y] T)).alloc (.cells #[.slice (some ⟨w.heap.size, 0, none⟩) 1 1, .slice (some ⟨w.heap.size + 1, 0, none⟩) 1 1] U)) (.slice (some ⟨w.heap.size + 2, 0, none⟩) 2 2) [[x], [y]] := by
  obtain ⟨w1, h1⟩ : ∃ w1, w1 = w.alloc (.cells #[.int .i64 x] T) := ⟨_, rfl⟩
  obtain ⟨w2, h2⟩ : ∃ w2, w2 = w1.alloc (.cells #[.int .i64 y] T) := ⟨_, rfl⟩
  obtain ⟨w3, h3⟩ : ∃ w3, w3 = w2.alloc (.cells #[.slice (some ⟨w.heap.size, 0, none⟩) 1 1, .slice (some ⟨w.heap.size + 1, 0, none⟩) 1 1] U) := ⟨_, rfl⟩
  rw [← h1, ← h2, ← h3]
  have s1 : w1.heap.size = w.heap.size + 1 := by rw [h1]; simp
  have s2 : w2.heap.size = w.heap.size + 2 := by rw [h2]; simp [s1]
  have s3 : w3.heap.size = w.heap.size + 3 := by rw [h3]; simp [s2]
  have g2 : Gr w1 w2 := by rw [h2]; exact Below.alloc (Below.refl _ _) (Nat.le_refl _) _
  have g3 : Gr w2 w3 := by rw [h3]; exact Below.alloc (Below.refl _ _) (Nat.le_refl _) _
  have cx : w3.cell? ⟨w.heap.size, 0, none⟩ = some (.int .i64 x) := cell_gr g3 (cell_gr g2 (by rw [h1]; exact World.cell?_alloc_new w #[.int .i64 x] T 0))
  have cy : w3.cell? ⟨w.heap.size + 1, 0, none⟩ = some (.int .i64 y) := cell_gr g3 (by
    have := World.cell?_alloc_new w1 #[.int .i64 y] T 0
    rw [s1, ← h2] at this
    exact this)
  have c0 : ∀ j v, (#[.slice (some ⟨w.heap.size, 0, none⟩) 1 1, .slice (some ⟨w.heap.size + 1, 0, none⟩) 1 1] : Array Value)[j]? = some v → w3.cell? ⟨w.heap.size + 2, j, none⟩ = some v := fun j v hj => by
    have := World.cell?_alloc_new w2 #[.slice (some ⟨w.heap.size, 0, none⟩) 1 1, .slice (some ⟨w.heap.size + 1, 0, none⟩) 1 1] U j
    rw [s2, ← h3] at this
    rw [this, hj]
  have one : ∀ g z, g < w3.heap.size → w3.cell? ⟨g, 0, none⟩ = some (.int .i64 z) → LiesI w3 (.slice (some ⟨g, 0, none⟩) 1 1) [z] := fun g z hg hc => ⟨_, 1, rfl, Nat.le_refl _, .inr ⟨_, _, rfl, hg, fun i v hi => by
    obtain rfl : i = 0 := by have := (List.getElem?_eq_some_iff.1 hi).1; simpa [ints] using this
    simp [ints] at hi; subst hi
    exact hc⟩⟩
  refine ⟨_, 2, [.slice (some ⟨w.heap.size, 0, none⟩) 1 1, .slice (some ⟨w.heap.size + 1, 0, none⟩) 1 1], rfl, Nat.le_refl _, rfl, .inr ⟨_, _, rfl, by omega, fun j v hj => ?_⟩, fun j l hj => ?_⟩
  · rw [Nat.zero_add]
    exact c0 j v (by rw [← hj, ← Array.getElem?_toList])
  · match j, hj with
    | 0, hj => simp at hj; subst hj; exact ⟨_, rfl, one _ _ (by omega) cx⟩
    | 1, hj => simp at hj; subst hj; exact ⟨_, rfl, one _ _ (by omega) cy⟩
    | j + 2, hj => simp at hj
theorem liesI_new (w : World) (x : Int) (T : TypeId) : LiesI (w.alloc (.cells #[.int .i64 x] T)) (.slice (some ⟨w.heap.size, 0, none⟩) 1 1) [x] :=
  ⟨_, 1, rfl, Nat.le_refl _, .inr ⟨_, _, rfl, by simp, fun i v hi => by
    obtain rfl : i = 0 := by have := (List.getElem?_eq_some_iff.1 hi).1; simpa [ints] using this
    simp [ints] at hi; subst hi
    exact World.cell?_alloc_new w #[.int .i64 x] T 0⟩⟩
theorem ex_right2 : right [[5], [7]] = true := by kernel_rfl
theorem ex_size2 : (layS [[5], [7]]).size = 18 := lay_len ex_right2
set_option maxHeartbeats 4000000 in
theorem awake13_c (w : World) : Calls Try.prog 6 #[] w fun e w' => e = .returned (.bool true) ∧ Gr w w' := by
  have C1 := Lib.hid (new_c 100 (by decide) (by decide))
  have C2 := Lib.hid (fun p u B h => d_create p (fresh 100) nmA (by decide) nmA_right (by decide) u B h)
  rw [vs_create] at C2
  have hz := ex_size2
  have C30 := fun p u B h => d_append p (vsC 100) nmA (layS [[5], [7]]) (by decide) nmA_right (by decide) (by omega) u B h
  rw [vs_append 100 _ (by omega)] at C30
  have C3 := Lib.hid C30
  clear C30
  have CB := Lib.hid (fun u => bu_new 1 u (by decide) (by decide))
  have CL := Lib.hid (fun (u : World) v (h : LiesII u v [[5], [7]]) => by
    have := rlay10_c h (by decide) (by decide) (by intro l hl n hn; simp at hl; rcases hl with rfl | rfl <;> (simp at hn; subst hn; unfold I64; decide))
    rw [ex_right2] at this
    exact this)
  have CO := Lib.hid (fun D P u B h => v3_make ex_right2 D P (vsA 100 (layS [[5], [7]])) ⟨1, 0, 0⟩ nmA 1 (by decide) rfl (vs_stands _ _) nmA_size nmA_right (by decide) u B h)
  have ho : (⟨nmA, 1, 2, 1⟩ : So).ok := o_ok (L := [[5], [7]]) ex_right2 (by decide) (by decide) nmA_size nmA_right (by omega)
  have G1 := Lib.hid (fun x D P u B h => v3_got ex_right2 (by decide) x D P ⟨nmA, 1, 2, 1⟩ ho rfl rfl (by decide) [] (vcOk_nil _ _) (vsA 100 (layS [[5], [7]])).call.call (vs_stands _ _).call.1.call.1 (by decide) ((⟨1, 0, 0⟩ : Bu).take 1) 0 [5] rfl u B h)
  have G2 := Lib.hid (fun x D P hs hok s hst hk u B h => v3_got ex_right2 (by decide) x D P ⟨nmA, 1, 2, 1⟩ ho rfl rfl (by decide) hs hok s hst hk ((⟨1, 0, 0⟩ : Bu).take 1) 1 [7] rfl u B h)
  have L2 := Lib.hid (fun u => liesII_two u 5 7 3 41)
  clear ho hz
  go_enter Try.func6, Try.ntmps6
  go_wp2_with fail
  refine (C1.out _).mono ?_; rintro e u1 hb
  obtain ⟨p, B1, rfl, hd1, g1, hn1⟩ := hb
  obtain ⟨E1, q1, n1⟩ := part_new (P := DiskA p (fresh 100)) (L := []) trivial (stars_none w) g1 hd1 hn1
  have N1 := Lib.hid n1
  have K2 := Lib.hid (does_at (f := 10) (L := [DiskA p (fresh 100)]) (Q := DiskA p (vsC 100)) 0 rfl ⟨fr_disk _ _, trivial⟩ q1 fun B h => C2.out p u1 B h)
  clear hd1 g1 hn1 q1 n1
  go_wp2_with fail
  refine K2.out.mono ?_; rintro e u2 ⟨rfl, E2, q2, n2⟩
  have Q2 := Lib.hid q2
  have N2 := Lib.hid (N1.out.trans n2)
  clear q2 n2 K2
  have L3 := Lib.hid (CL.out _ _ (L2.out u2))
  have gA : Gr u2 (((u2.alloc (.cells #[.int .i64 5] 3)).alloc (.cells #[.int .i64 7] 3)).alloc (.cells #[.slice (some ⟨u2.heap.size, 0, none⟩) 1 1, .slice (some ⟨u2.heap.size + 1, 0, none⟩) 1 1] 41)) := Below.alloc (Below.alloc (Below.alloc (Below.refl _ _) (Nat.le_refl _) _) (by simp) _) (by simp; omega) _
  have GA := Lib.hid gA
  clear gA
  go_wp2_with fail
  refine L3.out.mono ?_; rintro e u3 ⟨rfl, g3⟩
  have K3 := Lib.hid (does_at (f := 11) (L := [DiskA p (vsC 100)]) (Q := DiskA p (vsA 100 (layS [[5], [7]]))) 0 rfl ⟨fr_disk _ _, trivial⟩ (stars_gr (L := [DiskA p (vsC 100)]) ⟨fr_disk _ _, trivial⟩ Q2.out (GA.out.trans g3)) fun B h => C3.out p u3 B h)
  have N3 := Lib.hid (N2.out.trans (Nx.gr (B := E2) (GA.out.trans g3)))
  clear g3 L3
  go_wp2_with fail
  refine K3.out.mono ?_; rintro e u4 ⟨rfl, E4, q4, n4⟩
  have Q4 := Lib.hid q4
  have N4 := Lib.hid (N3.out.trans n4)
  clear q4 n4 K3
  go_wp2_with fail
  refine (CB.out _).mono ?_; rintro e u5 ⟨rfl, hb5, g5⟩
  obtain ⟨E5, q5, n5⟩ := part_new (P := BuA u4.heap.size ⟨1, 0, 0⟩) (L := [DiskA p (vsA 100 (layS [[5], [7]]))]) ⟨fr_disk _ _, trivial⟩ Q4.out g5 hb5 (fun b hb => by omega)
  obtain ⟨pb, hpb⟩ : ∃ pb, pb = u4.heap.size := ⟨_, rfl⟩
  rw [← hpb] at q5 ⊢
  have K5 := Lib.hid (CO.out p pb u5 E5 (stars_perm (List.Perm.swap _ _ _) q5))
  have N5 := Lib.hid (N4.out.trans n5)
  clear hb5 g5 q5 n5 hpb
  go_wp2_with fail
  refine K5.out.mono ?_; rintro e u6 ⟨x, rfl, E6, q6, n6⟩
  have K6 := Lib.hid (G1.out x p pb u6 E6 q6)
  have N6 := Lib.hid (N5.out.trans n6)
  clear q6 n6 K5
  go_wp2_with fail
  refine K6.out.mono ?_; rintro e u7 ⟨v7, r7, s7, E7, rfl, l7, ok7, st7, c7, q7, n7⟩
  obtain ⟨F7, f7, k7⟩ := suf_nx [OwnI v7 [5]] (M := v3l x p pb ⟨nmA, 1, 2, 1⟩ ((((0 : Nat) : Int), [5]) :: r7) s7 ((⟨1, 0, 0⟩ : Bu).take 1)) ⟨fr_ownI _ _, trivial⟩ q7
  have K7 := Lib.hid (G2.out x p pb _ ok7 s7 st7 (by have : (vsA 100 (layS [[5], [7]])).call.call.calls = 4 := rfl; omega) u7 F7 f7)
  have N7 := Lib.hid (N6.out.trans n7)
  have KK := Lib.hid k7
  obtain ⟨a7, c7, rfl, _⟩ := l7
  clear q7 n7 K6 ok7 st7 f7 k7
  go_wp2_with fail
  refine K7.out.mono ?_; rintro e u8 ⟨v8, r8, s8, E8, rfl, l8, ok8, st8, c8, q8, n8⟩
  obtain ⟨E9, q9, n9⟩ := KK.out _ _ _ q8 n8
  have hr8 : r8 = [] := List.eq_nil_of_length_eq_zero (by have := ok8.room; simp at this; simp [this])
  subst hr8
  have L7 := Lib.hid (fun u (g : Gr u8 u) => (ownI_lies (part_at 0 rfl q9).choose_spec.1).gr g)
  have L8 := Lib.hid (fun u (g : Gr u8 u) => l8.gr g)
  have H8 := Lib.hid (fun u (g : Gr u8 u) => v3_held (stars_drop (stars_gr (L := OwnI v8 [7] :: v3l x p pb ⟨nmA, 1, 2, 1⟩ [((1 : Nat), [7])] s8 ((⟨1, 0, 0⟩ : Bu).take 1)) ⟨fr_ownI _ _, frs_v3 _ _ _ _ _ _ _⟩ q8 g)).choose_spec.1 (by decide))
  have N8 := Lib.hid (N7.out.trans n9)
  obtain ⟨a8, k8, rfl, _⟩ := l8
  clear q8 n8 q9 n9 K7 ok8 st8 c8 KK
  go_wp2_with fail
  refine (vclose_nil _).mono ?_; rintro e u9 ⟨rfl, rfl⟩
  go_wp2_with fail
  refine (vget_nil _ _).mono ?_; rintro e u10 ⟨rfl, g10⟩
  have GA := Lib.hid g10
  clear g10
  go_wp2_with fail
  refine (vget_shut _ _ _ (by exact World.cell?_alloc_new _ _ _ _)).mono ?_; rintro e u11 ⟨rfl, g11⟩
  have g12 : Gr u8 u11 := (GA.out.trans (Below.alloc (Below.refl _ _) (Nat.le_refl _) _)).trans g11
  have G12 := Lib.hid g12
  clear g11 g12
  go_wp2_with fail
  refine (samel_c (L := [5]) (by decide) (L7.out _ (G12.out.trans (Below.alloc (Below.refl _ _) (Nat.le_refl _) _))) (liesI_new u11 5 3)).mono ?_; rintro e u13 ⟨rfl, g13⟩
  have G13 := Lib.hid ((G12.out.trans (Below.alloc (Below.refl _ _) (Nat.le_refl _) _)).trans g13)
  clear g13
  go_wp2_with fail
  refine (samel_c (L := [7]) (by decide) (L8.out _ (G13.out.trans (Below.alloc (Below.refl _ _) (Nat.le_refl _) _))) (liesI_new u13 7 3)).mono ?_; rintro e u14 ⟨rfl, g14⟩
  have G14 := Lib.hid ((G13.out.trans (Below.alloc (Below.refl _ _) (Nat.le_refl _) _)).trans g14)
  clear g14
  go_wp2_with fail
  refine (H8.out _ G14.out).mono ?_; rintro e u15 ⟨v15, rfl, l15, g15⟩
  have L15 := Lib.hid (fun u (g : Gr u15 u) => l15.gr g)
  have G15 := Lib.hid (G14.out.trans g15)
  obtain ⟨a15, k15, rfl, _⟩ := l15
  clear g15
  go_wp2_with fail
  refine (samel_c (L := [1]) (by decide) (L15.out _ (Below.alloc (Below.refl _ _) (Nat.le_refl _) _)) (liesI_new u15 1 3)).mono ?_; rintro e u16 ⟨rfl, g16⟩
  have G16 := Lib.hid ((G15.out.trans (Below.alloc (Below.refl _ _) (Nat.le_refl _) _)).trans g16)
  clear g16
  go_wp2_with fail
  refine (vn_nil _).mono ?_; rintro e u17 ⟨rfl, rfl⟩
  go_wp2_with fail
  refine (vd_nil _).mono ?_; rintro e u18 ⟨rfl, rfl⟩
  go_wp2_with fail
  refine (vheld_nil _).mono ?_; rintro e u19 ⟨rfl, rfl⟩
  go_wp2_with fail
  go_ret
  exact ⟨rfl, (nx_gr N8.out).trans G16.out⟩
/-- What holds at a round's head. -/
def VcAt (w : World) (x D P : Nat) (o : So) (L : List (List Int)) (b : Bu) (m : Nat) (iv : Value) (wr : World) : Prop :=
  ∃ (i : Nat) (hs : List (Int × List Int)) (s : St), i ≤ m ∧ iv = .int .i64 i ∧ VcOk L o.room hs ∧ Stands s o.nm.data.toList (layS L) ∧ s.calls ≤ 10 + i ∧ ∃ B, stars (v3l x D P o hs s b) wr B ∧ Nx (fun _ => False) w B wr
theorem bu_full {room : Nat} (h : 1 ≤ room) : ((⟨room, 0, 0⟩ : Bu).take (room : Int)) = ⟨room, room, room⟩ := by
  unfold Bu.take
  rw [if_neg (by simp only []; omega)]
  simp only [Int.zero_add, Bu.mk.injEq, true_and]
  omega
theorem bu_none {room : Nat} : ((⟨room, room, room⟩ : Bu).give (room : Int)) = ⟨room, 0, room⟩ := by
  unfold Bu.give
  rw [if_neg (by omega)]
  simp only [Bu.mk.injEq, true_and, and_true]
  omega
end Go.Proofs.Ytibajmjplpnbmaa
