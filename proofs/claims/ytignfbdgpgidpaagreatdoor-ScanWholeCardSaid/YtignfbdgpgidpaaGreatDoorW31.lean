/- In one text: Rd3, InfoNe, Rd4, Rd5. -/
import Derived.Test.YtignfbdgpgidpaaGreatDoorW30
import Derived.Test.YtignfbdgpgidpaaGreatDoorW10
import Derived.Test.YtignfbdgpgidpaaGreatDoorW04
import Derived.Test.YtignfbdgpgidpaaGreatDoorW22
/- The program's reader: stop, takeEnd. -/
namespace Go.Proofs.YtignfbdgpgidpaaGreatDoor
open Go.RowKit FsPlain CrcPlain OctPlain FramePlain RecPlain RdPlain
set_option linter.unusedVariables false
set_option linter.unusedSimpArgs false
set_option maxRecDepth 20000
theorem ro_shut {x D P : Nat} {s : St} {b : Bu} {y : Rs} {vq : Value} {queue : List ByteArray} {k : Nat} {t : Bool} {w : World} {B : Nat → Prop} (h : stars (rol x D P s b (rdc D P y vq k t) vq queue) w B) :
    ∃ B', RSh x D P s b y.told k t (((((((((((w.setCell ⟨x, 0, none⟩ (.pointer none)).setCell ⟨x, 1, none⟩ (.string ⟨#[]⟩)).setCell ⟨x, 2, none⟩ (.int .i64 0)).setCell ⟨x, 3, none⟩ (.int .i64 0)).setCell ⟨x, 4, none⟩ (.pointer none)).setCell ⟨x, 5, none⟩ (.int .i64 0)).setCell ⟨x, 6, none⟩ (.slice none 0 0)).setCell ⟨x, 7, none⟩ (.bool false)).setCell ⟨x, 8, none⟩ (.int .i64 (y.told : Nat))).setCell ⟨x, 9, none⟩ (.int .u32 (k : Nat))).setCell ⟨x, 10, none⟩ (.bool t)) B' ∧ Nx B w B' (((((((((((w.setCell ⟨x, 0, none⟩ (.pointer none)).setCell ⟨x, 1, none⟩ (.string ⟨#[]⟩)).setCell ⟨x, 2, none⟩ (.int .i64 0)).setCell ⟨x, 3, none⟩ (.int .i64 0)).setCell ⟨x, 4, none⟩ (.pointer none)).setCell ⟨x, 5, none⟩ (.int .i64 0)).setCell ⟨x, 6, none⟩ (.slice none 0 0)).setCell ⟨x, 7, none⟩ (.bool false)).setCell ⟨x, 8, none⟩ (.int .i64 (y.told : Nat))).setCell ⟨x, 9, none⟩ (.int .u32 (k : Nat))).setCell ⟨x, 10, none⟩ (.bool t)) := by
  obtain ⟨B0, h0, n0⟩ := rol_set (c' := #[.pointer none, .string y.nm, .int .i64 (y.pos : Nat), .int .i64 (y.left : Nat), .pointer (some ⟨P, 0, none⟩), .int .i64 y.size, vq, .bool y.short, .int .i64 (y.told : Nat), .int .u32 (k : Nat), .bool t]) 0 (.pointer none) h rfl
  generalize w.setCell ⟨x, 0, none⟩ (.pointer none) = w0 at h0 n0 ⊢
  obtain ⟨B1, h1, n1⟩ := rol_set (c' := #[.pointer none, .string ⟨#[]⟩, .int .i64 (y.pos : Nat), .int .i64 (y.left : Nat), .pointer (some ⟨P, 0, none⟩), .int .i64 y.size, vq, .bool y.short, .int .i64 (y.told : Nat), .int .u32 (k : Nat), .bool t]) 1 (.string ⟨#[]⟩) h0 rfl
  generalize w0.setCell ⟨x, 1, none⟩ (.string ⟨#[]⟩) = w1 at h1 n1 ⊢
  obtain ⟨B2, h2, n2⟩ := rol_set (c' := #[.pointer none, .string ⟨#[]⟩, .int .i64 0, .int .i64 (y.left : Nat), .pointer (some ⟨P, 0, none⟩), .int .i64 y.size, vq, .bool y.short, .int .i64 (y.told : Nat), .int .u32 (k : Nat), .bool t]) 2 (.int .i64 0) h1 rfl
  generalize w1.setCell ⟨x, 2, none⟩ (.int .i64 0) = w2 at h2 n2 ⊢
  obtain ⟨B3, h3, n3⟩ := rol_set (c' := #[.pointer none, .string ⟨#[]⟩, .int .i64 0, .int .i64 0, .pointer (some ⟨P, 0, none⟩), .int .i64 y.size, vq, .bool y.short, .int .i64 (y.told : Nat), .int .u32 (k : Nat), .bool t]) 3 (.int .i64 0) h2 rfl
  generalize w2.setCell ⟨x, 3, none⟩ (.int .i64 0) = w3 at h3 n3 ⊢
  obtain ⟨B4, h4, n4⟩ := rol_set (c' := #[.pointer none, .string ⟨#[]⟩, .int .i64 0, .int .i64 0, .pointer none, .int .i64 y.size, vq, .bool y.short, .int .i64 (y.told : Nat), .int .u32 (k : Nat), .bool t]) 4 (.pointer none) h3 rfl
  generalize w3.setCell ⟨x, 4, none⟩ (.pointer none) = w4 at h4 n4 ⊢
  obtain ⟨B5, h5, n5⟩ := rol_set (c' := #[.pointer none, .string ⟨#[]⟩, .int .i64 0, .int .i64 0, .pointer none, .int .i64 0, vq, .bool y.short, .int .i64 (y.told : Nat), .int .u32 (k : Nat), .bool t]) 5 (.int .i64 0) h4 rfl
  generalize w4.setCell ⟨x, 5, none⟩ (.int .i64 0) = w5 at h5 n5 ⊢
  obtain ⟨B6, h6, n6⟩ := rol_set (c' := #[.pointer none, .string ⟨#[]⟩, .int .i64 0, .int .i64 0, .pointer none, .int .i64 0, .slice none 0 0, .bool y.short, .int .i64 (y.told : Nat), .int .u32 (k : Nat), .bool t]) 6 (.slice none 0 0) h5 rfl
  generalize w5.setCell ⟨x, 6, none⟩ (.slice none 0 0) = w6 at h6 n6 ⊢
  obtain ⟨B7, h7, n7⟩ := rol_set (c' := #[.pointer none, .string ⟨#[]⟩, .int .i64 0, .int .i64 0, .pointer none, .int .i64 0, .slice none 0 0, .bool false, .int .i64 (y.told : Nat), .int .u32 (k : Nat), .bool t]) 7 (.bool false) h6 rfl
  generalize w6.setCell ⟨x, 7, none⟩ (.bool false) = w7 at h7 n7 ⊢
  obtain ⟨B8, h8, n8⟩ := rol_set (c' := #[.pointer none, .string ⟨#[]⟩, .int .i64 0, .int .i64 0, .pointer none, .int .i64 0, .slice none 0 0, .bool false, .int .i64 (y.told : Nat), .int .u32 (k : Nat), .bool t]) 8 (.int .i64 (y.told : Nat)) h7 rfl
  generalize w7.setCell ⟨x, 8, none⟩ (.int .i64 (y.told : Nat)) = w8 at h8 n8 ⊢
  obtain ⟨B9, h9, n9⟩ := rol_set (c' := #[.pointer none, .string ⟨#[]⟩, .int .i64 0, .int .i64 0, .pointer none, .int .i64 0, .slice none 0 0, .bool false, .int .i64 (y.told : Nat), .int .u32 (k : Nat), .bool t]) 9 (.int .u32 (k : Nat)) h8 rfl
  generalize w8.setCell ⟨x, 9, none⟩ (.int .u32 (k : Nat)) = w9 at h9 n9 ⊢
  obtain ⟨B10, h10, n10⟩ := rol_set (c' := #[.pointer none, .string ⟨#[]⟩, .int .i64 0, .int .i64 0, .pointer none, .int .i64 0, .slice none 0 0, .bool false, .int .i64 (y.told : Nat), .int .u32 (k : Nat), .bool t]) 10 (.bool t) h9 rfl
  generalize w9.setCell ⟨x, 10, none⟩ (.bool t) = w10 at h10 n10 ⊢
  obtain ⟨B', h', n'⟩ := rol_none h10
  exact ⟨B', h', ((((((((((n0.trans n1).trans n2).trans n3).trans n4).trans n5).trans n6).trans n7).trans n8).trans n9).trans n10).trans n'⟩
set_option maxHeartbeats 4000000 in
theorem r_stop (x D P : Nat) (m : N3) (t : Bool) (w : World) (B : Nat → Prop) (h : RO x D P m t w B) :
    Calls Tryz.prog 136 #[.pointer (some ⟨x, 0, none⟩)] w (Does w B (RSh x D P m.s (m.b.give 4) m.x.told (sumN m.x.all) t) (.tuple #[])) := by
  obtain ⟨vq, h⟩ := h
  obtain ⟨k, hk⟩ : ∃ k, k = sumN m.x.all := ⟨_, rfl⟩
  rw [← hk] at h ⊢
  clear hk
  have hb := rol_blk h
  have c4 : w.cell? ⟨x, 4, none⟩ = some (.pointer (some ⟨P, 0, none⟩)) := by rw [cells_at hb]; rfl
  have C := does_at (f := 132) (Q := BuA P (m.b.give 4)) 3 rfl (frs_rol _ _ _ _ _ _ _ _) h fun B2 h2 => bu_give P m.b 4 w B2 h2
  have HC := Lib.hid C
  clear h hb C
  go_enter Tryz.func136, Tryz.ntmps136
  go_wp2_with fail
  refine HC.out.mono ?_; rintro e w1 hd
  obtain ⟨rfl, B1, h1, n1⟩ := hd
  have h2 := stars_gr (frs_rol _ _ _ _ _ _ _ _) h1 (Gr.refl w1).drew
  have n2 := n1.trans (Nx.gr (B := B1) (Gr.refl w1).drew)
  have hb1 := rol_blk h1
  have e8 : w1.cell? ⟨x, 8, none⟩ = some (.int .i64 (m.x.told : Nat)) := by rw [cells_at hb1]; rfl
  have e9 : w1.cell? ⟨x, 9, none⟩ = some (.int .u32 (k : Nat)) := by rw [cells_at hb1]; rfl
  have e10 : w1.cell? ⟨x, 10, none⟩ = some (.bool t) := by rw [cells_at hb1]; rfl
  clear h1 n1 HC hb1 c4
  go_wp2_with fail
  go_still_tail 15, (by kernel_rfl)
  change wpList _ _ _ _ _ w1.drew
  generalize w1.drew = w2 at h2 n2 ⊢
  have hb := rol_blk h2
  have b0 : w2.cell? ⟨x, 0, none⟩ = some (.pointer (some ⟨D, 0, none⟩)) := by rw [cells_at hb]; rfl
  have f0 := cells_free hb 0
  have b1 : w2.cell? ⟨x, 1, none⟩ = some (.string m.x.nm) := by rw [cells_at hb]; rfl
  have f1 := cells_free hb 1
  have b2 : w2.cell? ⟨x, 2, none⟩ = some (.int .i64 (m.x.pos : Nat)) := by rw [cells_at hb]; rfl
  have f2 := cells_free hb 2
  have b3 : w2.cell? ⟨x, 3, none⟩ = some (.int .i64 (m.x.left : Nat)) := by rw [cells_at hb]; rfl
  have f3 := cells_free hb 3
  have b4 : w2.cell? ⟨x, 4, none⟩ = some (.pointer (some ⟨P, 0, none⟩)) := by rw [cells_at hb]; rfl
  have f4 := cells_free hb 4
  have b5 : w2.cell? ⟨x, 5, none⟩ = some (.int .i64 m.x.size) := by rw [cells_at hb]; rfl
  have f5 := cells_free hb 5
  have b6 : w2.cell? ⟨x, 6, none⟩ = some (vq) := by rw [cells_at hb]; rfl
  have f6 := cells_free hb 6
  have b7 : w2.cell? ⟨x, 7, none⟩ = some (.bool m.x.short) := by rw [cells_at hb]; rfl
  have f7 := cells_free hb 7
  have b8 : w2.cell? ⟨x, 8, none⟩ = some (.int .i64 (m.x.told : Nat)) := by rw [cells_at hb]; rfl
  have f8 := cells_free hb 8
  have b9 : w2.cell? ⟨x, 9, none⟩ = some (.int .u32 (k : Nat)) := by rw [cells_at hb]; rfl
  have f9 := cells_free hb 9
  have b10 : w2.cell? ⟨x, 10, none⟩ = some (.bool t) := by rw [cells_at hb]; rfl
  have f10 := cells_free hb 10
  have SH := Lib.hid (ro_shut h2)
  have N2 := Lib.hid n2
  clear h2 n2 hb e8 e9 e10
  go_wp2_with fail
  go_end0
  obtain ⟨B3, h3, n3⟩ := SH.out
  exact ⟨rfl, B3, h3, N2.out.trans n3⟩
theorem ro_tell {x D P : Nat} {m : N3} {w : World} {B : Nat → Prop} (h : RO x D P m false w B) : ∃ B', RO x D P m true (w.setCell ⟨x, 10, none⟩ (.bool true)) B' ∧ Nx B w B' (w.setCell ⟨x, 10, none⟩ (.bool true)) := by
  obtain ⟨vq, h⟩ := h
  obtain ⟨B', h', n'⟩ := rol_set (c' := rdc D P m.x vq (sumN m.x.all) true) 10 (.bool true) h rfl
  exact ⟨B', ⟨vq, h'⟩, n'⟩
theorem ro_cells {x D P : Nat} {m : N3} {t : Bool} {w : World} {B : Nat → Prop} (h : RO x D P m t w B) : x < w.heap.size ∧ (∀ u, Gr w u → u.cell? ⟨x, 3, none⟩ = some (.int .i64 (m.x.left : Nat)) ∧ u.cell? ⟨x, 8, none⟩ = some (.int .i64 (m.x.told : Nat)) ∧ u.cell? ⟨x, 9, none⟩ = some (.int .u32 (sumN m.x.all : Nat)) ∧ u.cell? ⟨x, 10, none⟩ = some (.bool t) ∧ u.frozen? ⟨x, 10, none⟩ = false) := by
  obtain ⟨vq, h⟩ := h
  refine ⟨lt_of_block (rol_blk h), fun u g => ?_⟩
  have hb := rol_blk (stars_gr (frs_rol _ _ _ _ _ _ _ _) h g)
  exact ⟨by rw [cells_at hb]; rfl, by rw [cells_at hb]; rfl, by rw [cells_at hb]; rfl, by rw [cells_at hb]; rfl, cells_free hb 10⟩
end Go.Proofs.YtignfbdgpgidpaaGreatDoor
/- Two Infos that are unlike. -/
namespace Go.Proofs.YtignfbdgpgidpaaGreatDoor
open Go.RowKit
set_option linter.unusedVariables false
set_option linter.unusedSimpArgs false
set_option maxRecDepth 20000
theorem info_off (n m n' m' : Int) (h : ¬ (n = n' ∧ m = m')) (w : World) : (Op.equalIn 10000 50 (.agg #[.int .i64 n, .int .u32 m]) (.agg #[.int .i64 n', .int .u32 m'])).run Tryz.prog w = .ok false w := by
  rw [run_equalIn_agg w 9999 _ _ _ (by kernel_rfl) (by kernel_rfl)]
  by_cases h1 : n = n'
  · have h2 : ¬ m = m' := fun e => h ⟨h1, e⟩
    simp [go_sem, h1, h2]
  · simp [go_sem, h1]
theorem info_neqt (n m n' m' : Int) (h : ¬ (n = n' ∧ m = m')) (w : World) : (binOp .neq 50 (.agg #[.int .i64 n, .int .u32 m]) (.agg #[.int .i64 n', .int .u32 m'])).run Tryz.prog w = .ok (.bool true) w := by
  rw [run_neq_struct, info_off n m n' m' h]
  rfl
end Go.Proofs.YtignfbdgpgidpaaGreatDoor
/- The program's reader: takeEnd. -/
namespace Go.Proofs.YtignfbdgpgidpaaGreatDoor
open Go.RowKit FsPlain CrcPlain OctPlain FramePlain RecPlain RdPlain
set_option linter.unusedVariables false
set_option linter.unusedSimpArgs false
set_option maxRecDepth 20000
set_option maxHeartbeats 4000000 in
theorem r_end_none (x D P : Nat) (m : N3) (S : ByteArray) (hs : eB S = false) (w : World) (B : Nat → Prop) (h : RO x D P m false w B) :
    Calls Tryz.prog 167 #[.pointer (some ⟨x, 0, none⟩), .string S] w (Does w B (RO x D P m false) (.int .i64 6)) := by
  have H := Lib.hid h
  have CE := Lib.hid (fun u => getend_c S u)
  unfold EGot at CE
  obtain ⟨ec, hec⟩ : ∃ ec, ec = eC S := ⟨_, rfl⟩
  obtain ⟨em, hem⟩ : ∃ em, em = eM S := ⟨_, rfl⟩
  rw [hs, ← hec, ← hem] at CE
  clear h hec hem hs
  go_enter Tryz.func167, Tryz.ntmps167
  go_wp2_with fail
  refine (CE.out _).mono ?_; rintro e u1 ⟨rfl, g1⟩
  have gX : Gr w (u1.alloc (.cells #[.int .i64 ec, .int .u32 em] 50)) := g1.alloc g1.size _
  obtain ⟨X, hX⟩ : ∃ X, X = u1.alloc (.cells #[.int .i64 ec, .int .u32 em] 50) := ⟨_, rfl⟩
  rw [← hX] at gX
  have HX := Lib.hid hX
  have HG := Lib.hid gX
  clear hX gX g1
  go_wp2_with fail
  rw [← HX.out]
  go_quiet (fail)
  go_wp2_with fail
  go_ret
  exact ⟨rfl, B, star_gr (fr_ro _ _ _ _ _) H.out (HG.out.trans (grN _ _)), Nx.gr (HG.out.trans (grN _ _))⟩
set_option maxHeartbeats 4000000 in
theorem r_end_part (x D P : Nat) (m : N3) (S : ByteArray) (hs : eB S = true) (hl : S.size < m.x.left) (w : World) (B : Nat → Prop) (h : RO x D P m false w B) :
    Calls Tryz.prog 167 #[.pointer (some ⟨x, 0, none⟩), .string S] w (Does w B (RO x D P m false) (.int .i64 6)) := by
  have H := Lib.hid h
  obtain ⟨hx, K⟩ := ro_cells h
  have KH := Lib.hid K
  have CE := Lib.hid (fun u => getend_c S u)
  unfold EGot at CE
  obtain ⟨ec, hec⟩ : ∃ ec, ec = eC S := ⟨_, rfl⟩
  obtain ⟨em, hem⟩ : ∃ em, em = eM S := ⟨_, rfl⟩
  rw [hs, ← hec, ← hem] at CE
  have hl1 : ((S.size : Int) < (m.x.left : Int)) := by omega
  clear h hec hem hs K hl
  go_enter Tryz.func167, Tryz.ntmps167
  go_wp2_with fail
  refine (CE.out _).mono ?_; rintro e u1 ⟨rfl, g1⟩
  have gX : Gr w (u1.alloc (.cells #[.int .i64 ec, .int .u32 em] 50)) := g1.alloc g1.size _
  obtain ⟨X, hX⟩ : ∃ X, X = u1.alloc (.cells #[.int .i64 ec, .int .u32 em] 50) := ⟨_, rfl⟩
  rw [← hX] at gX
  have k3 := (KH.out X gX).1
  have HX := Lib.hid hX
  have HG := Lib.hid gX
  clear hX gX g1
  go_wp2_with fail
  rw [← HX.out]
  go_quiet (fail)
  go_wp2_with fail
  go_ret
  exact ⟨rfl, B, star_gr (fr_ro _ _ _ _ _) H.out (HG.out.trans (grN _ _)), Nx.gr (HG.out.trans (grN _ _))⟩
set_option maxHeartbeats 4000000 in
theorem r_end_odd (x D P : Nat) (m : N3) (S : ByteArray) (hs : eB S = true) (hl : S.size = m.x.left) (hne : ¬ (eC S = (m.x.told : Nat) ∧ eM S = (sumN m.x.all : Nat))) (w : World) (B : Nat → Prop) (h : RO x D P m false w B) :
    Calls Tryz.prog 167 #[.pointer (some ⟨x, 0, none⟩), .string S] w (Does w B (RO x D P m false) (.int .i64 6)) := by
  have H := Lib.hid h
  obtain ⟨hx, K⟩ := ro_cells h
  have KH := Lib.hid K
  have CE := Lib.hid (fun u => getend_c S u)
  unfold EGot at CE
  obtain ⟨ec, hec⟩ : ∃ ec, ec = eC S := ⟨_, rfl⟩
  obtain ⟨em, hem⟩ : ∃ em, em = eM S := ⟨_, rfl⟩
  obtain ⟨su, hsu⟩ : ∃ su : Nat, su = sumN m.x.all := ⟨_, rfl⟩
  rw [hs, ← hec, ← hem] at CE
  rw [← hec, ← hem, ← hsu] at hne
  rw [← hsu] at KH
  have hl1 : decide (S.size < m.x.left) = false := by simpa using (show m.x.left ≤ S.size by omega)
  have IE := info_neqt ec em (m.x.told : Nat) (su : Nat) hne
  have IS := info_off ec em (m.x.told : Nat) (su : Nat) hne
  clear h hec hem hs K hl hne hsu
  go_enter Tryz.func167, Tryz.ntmps167
  go_wp2_with fail
  refine (CE.out _).mono ?_; rintro e u1 ⟨rfl, g1⟩
  have gX : Gr w (u1.alloc (.cells #[.int .i64 ec, .int .u32 em] 50)) := g1.alloc g1.size _
  have hq := heap_alloc_new u1 (.cells #[.int .i64 ec, .int .u32 em] 50)
  obtain ⟨X, hX⟩ : ∃ X, X = u1.alloc (.cells #[.int .i64 ec, .int .u32 em] 50) := ⟨_, rfl⟩
  rw [← hX] at gX hq
  obtain ⟨k3, k8, k9, _⟩ := KH.out X gX
  have x0 : X.cell? ⟨u1.heap.size, 0, none⟩ = some (.int .i64 ec) := by rw [cells_at hq]; rfl
  have x1 : X.cell? ⟨u1.heap.size, 1, none⟩ = some (.int .u32 em) := by rw [cells_at hq]; rfl
  have hxX : x < X.heap.size := Nat.lt_of_lt_of_le hx gX.size
  have hqX := lt_of_block hq
  have CI : ∀ u, Gr X u → Calls Tryz.prog 138 #[.pointer (some ⟨x, 0, none⟩)] u fun e w' => e = .returned (.agg #[.int .i64 (m.x.told : Nat), .int .u32 (su : Nat)]) ∧ Gr X w' ∧ w'.cell? ⟨u1.heap.size, 0, none⟩ = some (.int .i64 ec) ∧ w'.cell? ⟨u1.heap.size, 1, none⟩ = some (.int .u32 em) ∧ w'.cell? ⟨x, 3, none⟩ = some (.int .i64 (m.x.left : Nat)) := fun u g => by
    have k := KH.out u (gX.trans g)
    refine (rinfo_at x m.x.told su u (Nat.lt_of_lt_of_le hxX g.size) k.2.1 k.2.2.1).mono ?_
    rintro e w' ⟨he, g2⟩
    have hg := g.trans g2
    exact ⟨he, hg, (hg.cell (p := ⟨u1.heap.size, 0, none⟩) hqX).trans x0, (hg.cell (p := ⟨u1.heap.size, 1, none⟩) hqX).trans x1, (hg.cell (p := ⟨x, 3, none⟩) hxX).trans k3⟩
  have CIH := Lib.hid CI
  have HX := Lib.hid hX
  have HG := Lib.hid gX
  have gU := Gr.refl X
  have gUd : Gr X X.drew := Below.drew gU
  clear hX gX g1 CI hq
  go_wp2_with fail
  rw [← HX.out]
  go_region_held3 (fun w' => w'.cell? ⟨u1.heap.size, 0, none⟩ = some (.int .i64 ec) ∧ w'.cell? ⟨u1.heap.size, 1, none⟩ = some (.int .u32 em) ∧ w'.cell? ⟨x, 3, none⟩ = some (.int .i64 (m.x.left : Nat))) (first | exact ⟨x0, x1, k3⟩ | assumption | go_keep)
    ((go_at_call 138; refine (CIH.out _ (by assumption)).mono ?_; rintro e t2 ⟨rfl, g2, hk0, hk1, hk3⟩))
  have G2 := Lib.hid (HG.out.trans g2)
  go_wp2_with fail
  go_ret
  exact ⟨rfl, B, star_gr (fr_ro _ _ _ _ _) H.out G2.out, Nx.gr G2.out⟩
set_option maxHeartbeats 4000000 in
theorem r_end_whole (x D P : Nat) (m : N3) (S : ByteArray) (hs : eB S = true) (hl : S.size = m.x.left) (h1 : eC S = (m.x.told : Nat)) (h2 : eM S = (sumN m.x.all : Nat)) (w : World) (B : Nat → Prop) (h : RO x D P m false w B) :
    Calls Tryz.prog 167 #[.pointer (some ⟨x, 0, none⟩), .string S] w (Does w B (RO x D P m true) (.int .i64 0)) := by
  have H := Lib.hid h
  obtain ⟨hx, K⟩ := ro_cells h
  have KH := Lib.hid K
  have CE := Lib.hid (fun u => getend_c S u)
  unfold EGot at CE
  obtain ⟨su, hsu⟩ : ∃ su : Nat, su = sumN m.x.all := ⟨_, rfl⟩
  rw [hs, h1, h2, ← hsu] at CE
  rw [← hsu] at KH
  obtain ⟨ec, hec⟩ : ∃ ec : Int, ec = (m.x.told : Nat) := ⟨_, rfl⟩
  obtain ⟨em, hem⟩ : ∃ em : Int, em = (su : Nat) := ⟨_, rfl⟩
  rw [← hec, ← hem] at CE KH
  have hl1 : decide (S.size < m.x.left) = false := by simpa using (show m.x.left ≤ S.size by omega)
  have IE := info_neq ec em
  have IS := info_same ec em
  clear h hs K hl hsu h1 h2
  go_enter Tryz.func167, Tryz.ntmps167
  go_wp2_with fail
  refine (CE.out _).mono ?_; rintro e u1 ⟨rfl, g1⟩
  have gX : Gr w (u1.alloc (.cells #[.int .i64 ec, .int .u32 em] 50)) := g1.alloc g1.size _
  have hq := heap_alloc_new u1 (.cells #[.int .i64 ec, .int .u32 em] 50)
  obtain ⟨X, hX⟩ : ∃ X, X = u1.alloc (.cells #[.int .i64 ec, .int .u32 em] 50) := ⟨_, rfl⟩
  rw [← hX] at gX hq
  obtain ⟨k3, k8, k9, _⟩ := KH.out X gX
  have x0 : X.cell? ⟨u1.heap.size, 0, none⟩ = some (.int .i64 ec) := by rw [cells_at hq]; rfl
  have x1 : X.cell? ⟨u1.heap.size, 1, none⟩ = some (.int .u32 em) := by rw [cells_at hq]; rfl
  have hxX : x < X.heap.size := Nat.lt_of_lt_of_le hx gX.size
  have hqX := lt_of_block hq
  have CI : ∀ u, Gr X u → Calls Tryz.prog 138 #[.pointer (some ⟨x, 0, none⟩)] u fun e w' => e = .returned (.agg #[.int .i64 ec, .int .u32 em]) ∧ Gr X w' ∧ w'.cell? ⟨u1.heap.size, 0, none⟩ = some (.int .i64 ec) ∧ w'.cell? ⟨u1.heap.size, 1, none⟩ = some (.int .u32 em) ∧ w'.cell? ⟨x, 3, none⟩ = some (.int .i64 (m.x.left : Nat)) := fun u g => by
    have k := KH.out u (gX.trans g)
    refine (rinfo_at x m.x.told su u (Nat.lt_of_lt_of_le hxX g.size) (by rw [← hec]; exact k.2.1) (by rw [← hem]; exact k.2.2.1)).mono ?_
    rintro e w' ⟨he, g2⟩
    have hg := g.trans g2
    exact ⟨by rw [hec, hem]; exact he, hg, (hg.cell (p := ⟨u1.heap.size, 0, none⟩) hqX).trans x0, (hg.cell (p := ⟨u1.heap.size, 1, none⟩) hqX).trans x1, (hg.cell (p := ⟨x, 3, none⟩) hxX).trans k3⟩
  have CIH := Lib.hid CI
  have HX := Lib.hid hX
  have HG := Lib.hid gX
  have gU := Gr.refl X
  have gUd : Gr X X.drew := Below.drew gU
  have HEC := Lib.hid hec
  have HEM := Lib.hid hem
  clear hX gX g1 CI hq hec hem
  go_wp2_with fail
  rw [← HX.out]
  go_region_held3 (fun w' => w'.cell? ⟨u1.heap.size, 0, none⟩ = some (.int .i64 ec) ∧ w'.cell? ⟨u1.heap.size, 1, none⟩ = some (.int .u32 em) ∧ w'.cell? ⟨x, 3, none⟩ = some (.int .i64 (m.x.left : Nat))) (first | exact ⟨x0, x1, k3⟩ | assumption | go_keep)
    ((go_at_call 138; refine (CIH.out _ (by assumption)).mono ?_; rintro e t2 ⟨rfl, g2, hk0, hk1, hk3⟩))
  have g3 := HG.out.trans g2
  have h3 := star_gr (fr_ro _ _ _ _ _) H.out g3
  obtain ⟨_, _, _, c10, f10⟩ := KH.out t2 g3
  have T3 := Lib.hid (ro_tell h3)
  have G3 := Lib.hid g3
  clear h3 g3 hk0 hk1 hk3
  go_wp2_with fail
  go_ret
  obtain ⟨B4, h4, n4⟩ := T3.out
  exact ⟨rfl, B4, h4, (Nx.gr G3.out).trans n4⟩
end Go.Proofs.YtignfbdgpgidpaaGreatDoor
/- The program's reader: takeBlock. -/
namespace Go.Proofs.YtignfbdgpgidpaaGreatDoor
open Go.RowKit FsPlain CrcPlain OctPlain FramePlain RecPlain RdPlain
set_option linter.unusedVariables false
set_option linter.unusedSimpArgs false
set_option maxRecDepth 20000
theorem rol_queue {x D P : Nat} {s : St} {b : Bu} {c : Array Value} {vq v : Value} {queue gl : List ByteArray} {w : World} {B : Nat → Prop} (h : stars (QueA v gl :: rol x D P s b c vq queue) w B) : ∃ B', stars (rol x D P s b c v gl) w B' ∧ Nx B w B' w := by
  refine stars_drop (P := QueA vq queue) (L := rol x D P s b c v gl) (stars_perm ?_ h)
  unfold rol
  refine (List.Perm.swap _ _ _).trans (List.Perm.trans (.cons _ (List.Perm.swap _ _ _)) ?_)
  refine (List.Perm.cons _ (.cons _ (List.Perm.swap _ _ _))).trans ?_
  refine (List.Perm.cons _ (List.Perm.swap _ _ _)).trans ?_
  exact List.Perm.swap _ _ _
set_option maxHeartbeats 1000000 in
theorem r_block_late (x D P : Nat) (m : N3) (v : Value) (gn : Int) (hs : m.x.short = true) (w : World) (B : Nat → Prop) (h : RO x D P m false w B) :
    Calls Tryz.prog 166 #[.pointer (some ⟨x, 0, none⟩), v, .int .i64 gn] w (Does w B (RO x D P m false) (.int .i64 6)) := by
  have H := Lib.hid h
  obtain ⟨vq, h⟩ := h
  have hb := rol_blk h
  have c7 : w.cell? ⟨x, 7, none⟩ = some (.bool true) := by rw [cells_at hb, ← hs]; rfl
  clear h hb hs
  go_enter Tryz.func166, Tryz.ntmps166
  go_wp2_with fail
  go_ret
  exact ⟨rfl, B, H.out, Nx.refl _ _⟩
def SumsAt (x D P : Nat) (s : St) (b : Bu) (y : Rs) (v : Value) (gl : List ByteArray) (n : Nat) (w : World) (B : Nat → Prop) (i : Value) (wr : World) : Prop :=
  ∃ j : Nat, j ≤ n ∧ i = .int .i64 j ∧ ∃ B', stars (rol x D P s b (rdc D P y v (sumN (y.all ++ gl.take j)) false) v gl) wr B' ∧ Nx B w B' wr
set_option maxHeartbeats 4000000 in
theorem r_block (x D P : Nat) (m : N3) (v vq : Value) (gl : List ByteArray) (gn : Nat) (M : N3) (hM : M = ⟨m.s, m.b, { m.x with short := decide (gl.length < 4), queue := gl, all := m.x.all ++ gl, pos := m.x.pos + gn, left := m.x.left - gn }⟩) (hs : m.x.short = false) (hgl : gl.length ≤ 4) (hz : ∀ r ∈ gl, r.size ≤ 1000) (hle : gn ≤ m.x.left) (hf : m.x.pos + m.x.left ≤ 16777216) (w : World) (B : Nat → Prop) (h : stars (rol x D P m.s m.b (rdc D P m.x vq (sumN m.x.all) false) v gl) w B) :
    Calls Tryz.prog 166 #[.pointer (some ⟨x, 0, none⟩), v, .int .i64 (gn : Nat)] w (Does w B (RO x D P M false) (.int .i64 0)) := by
  obtain ⟨_, hqa, _⟩ := part_at 2 rfl h
  obtain ⟨⟨a, c, rfl, hc, _⟩, _⟩ := hqa
  obtain ⟨n, hn⟩ : ∃ n, gl.length = n := ⟨_, rfl⟩
  rw [hn] at h hgl hc ⊢
  have hb := rol_blk h
  have c7 : w.cell? ⟨x, 7, none⟩ = some (.bool false) := by rw [cells_at hb, ← hs]; rfl
  have c6 : w.cell? ⟨x, 6, none⟩ = some vq := by rw [cells_at hb]; rfl
  have f7 := cells_free hb 7
  have f6 := cells_free hb 6
  obtain ⟨y, hy⟩ : ∃ y : Rs, y = { m.x with short := decide (n < 4), queue := gl } := ⟨_, rfl⟩
  have hst : SumsAt x D P m.s m.b y (.slice a n c) gl n w B (.int .i64 0) ((w.setCell ⟨x, 7, none⟩ (.bool (decide ((n : Int) < 4)))).setCell ⟨x, 6, none⟩ (.slice a n c)) := by
    rw [show decide ((n : Int) < 4) = decide (n < 4) by simp only [decide_eq_decide]; omega]
    obtain ⟨B1, h1, n1⟩ := rol_set (c' := rdc D P { m.x with short := decide (n < 4) } vq (sumN m.x.all) false) 7 (.bool (decide (n < 4))) h rfl
    obtain ⟨B2, h2, n2⟩ := rol_set (c' := rdc D P y (.slice a n c) (sumN m.x.all) false) 6 (.slice a n c) h1 (by rw [hy]; rfl)
    refine ⟨0, Nat.zero_le _, rfl, B2, ?_, n1.trans n2⟩
    rw [List.take_zero, List.append_nil, show y.all = m.x.all by rw [hy]]
    exact h2
  have HY := Lib.hid hy
  have HZ := Lib.hid hz
  have HN := Lib.hid hn
  have HM := Lib.hid hM
  clear h hb hs hz hy hM hn
  go_enter Tryz.func166, Tryz.ntmps166
  go_wp2_with fail
  go_loopw [25] (fun i wr => SumsAt x D P m.s m.b y (.slice a n c) gl n w B i wr) (fun i _ => n - (intOf i).toNat)
  case atStart => exact hst
  case round =>
    clear hst c7 c6 f7 f6
    obtain ⟨j, hj, rfl, B1, h1, n1⟩ := hrel
    have hln := HN.out
    have hb1 := rol_blk h1
    by_cases hlt : j < n
    · obtain ⟨r, hr, hstep, hmem⟩ := take_at (l := gl) (j := j) (by omega)
      obtain ⟨_, hq1, _⟩ := part_at 2 rfl h1
      obtain ⟨b, off, c2, hv, _, hrow, _⟩ := que_open hq1 (by intro e; rw [e] at hln; simp at hln; omega)
      simp only [Value.slice.injEq] at hv
      obtain ⟨rfl, -, rfl⟩ := hv
      have hcx : wr.cell? ⟨b, off + j, none⟩ = some (.string r) := hrow.2 j r hr
      have MC := fun w => more_c (sumN (y.all ++ gl.take j)) (sumN_lt _) r (HZ.out r hmem) w
      have hsn := sumN_snoc (y.all ++ gl.take j) r
      rw [List.append_assoc, ← hstep] at hsn
      have c9 : wr.cell? ⟨x, 9, none⟩ = some (.int .u32 (sumN (y.all ++ gl.take j) : Nat)) := by rw [cells_at hb1]; rfl
      obtain ⟨k, hk⟩ : ∃ k, k = sumN (y.all ++ gl.take j) := ⟨_, rfl⟩
      obtain ⟨k2, hk2⟩ : ∃ k2, k2 = more k r.data.toList := ⟨_, rfl⟩
      rw [← hk] at MC hsn c9 h1 hb1
      rw [← hk2] at MC hsn
      have hK : ∀ u, Gr wr u → u.cell? ⟨x, 9, none⟩ = some (.int .u32 (k : Nat)) ∧ u.frozen? ⟨x, 9, none⟩ = false ∧ SumsAt x D P m.s m.b y (.slice (some ⟨b, off, none⟩) n c) gl n w B (.int .i64 ((j : Int) + 1)) (u.setCell ⟨x, 9, none⟩ (.int .u32 (k2 : Nat))) := fun u g => by
        have h2 := stars_gr (frs_rol _ _ _ _ _ _ _ _) h1 g
        have hb2 := rol_blk h2
        obtain ⟨B3, h3, n3⟩ := rol_set (c' := rdc D P y (.slice (some ⟨b, off, none⟩) n c) k2 false) 9 (.int .u32 (k2 : Nat)) h2 rfl
        refine ⟨by rw [cells_at hb2]; rfl, cells_free hb2 9, j + 1, hlt, rfl, B3, ?_, (n1.trans (Nx.gr g)).trans n3⟩
        rw [hsn]; exact h3
      have HK := Lib.hid hK
      clear hsn hK hk hk2 hstep hmem hr hrow hq1 h1 n1 hb1 HZ HN hln HY HM
      go_wp2_with fail
      refine (MC _).mono ?_; rintro e u ⟨rfl, g⟩
      obtain ⟨d9, f9, hend⟩ := HK.out u g
      have HE := Lib.hid hend
      clear hend
      go_wp2_with fail
      refine ⟨HE.out, ?_⟩
      simp [intOf]; omega
    · obtain rfl : j = n := by omega
      rw [List.take_of_length_le (by omega)] at h1 hb1
      obtain ⟨k, hk⟩ : ∃ k, k = sumN (y.all ++ gl) := ⟨_, rfl⟩
      rw [← hk] at h1 hb1
      have C := does_at (f := 164) 0 rfl (frs_rol _ _ _ _ _ _ _ _) h1 fun B2 h2 => src_pass x (rdc D P y (.slice a j c) k false) (rdc D P M.x (.slice a j c) k false) _ m.x.pos m.x.left gn (m.x.pos + gn) (m.x.left - gn) (by rw [HY.out]; rfl) (by rw [HY.out]; rfl) rfl (by omega) hf (by rw [HY.out, HM.out, ← hln]; rfl) wr B2 h2
      have CC := Lib.hid C
      have HK := Lib.hid hk
      have N1 := Lib.hid n1
      clear C hk h1 n1 hb1
      go_wp2_with fail
      refine CC.out.mono ?_; rintro e w3 hd
      obtain ⟨rfl, B3, h3, n3⟩ := hd
      have H3 := Lib.hid h3
      have N3 := Lib.hid (N1.out.trans n3)
      clear h3 n3 CC
      go_wp2_with fail
      go_ret
      refine ⟨rfl, B3, ⟨.slice a j c, ?_⟩, N3.out⟩
      have := H3.out
      rw [HK.out] at this
      rw [show M.s = m.s by rw [HM.out], show M.b = m.b by rw [HM.out], show M.x.all = y.all ++ gl by rw [HM.out, HY.out], show M.x.queue = gl by rw [HM.out]]
      exact this
end Go.Proofs.YtignfbdgpgidpaaGreatDoor
