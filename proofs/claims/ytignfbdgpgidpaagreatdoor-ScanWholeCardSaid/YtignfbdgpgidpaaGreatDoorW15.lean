/- In one text: ScWhole, ScWhole2, RecLen, Few, RecAwake, RecBoth, RecCut. -/
import Derived.Test.YtignfbdgpgidpaaGreatDoorW04
import Derived.Test.YtignfbdgpgidpaaGreatDoorW14
import Derived.Deep.DeepCutAuto
import Derived.Deep.RegionHeld3
import Derived.Test.YtignfbdgpgidpaaGreatDoorW12
import Derived.WalkKit
import Derived.ProofKit
import Derived.Below
import Derived.Handy
import Derived.WalkLawsBesides
import Derived.Outline
import Derived.Test.YtignfbdgpgidpaaGreatDoorW09
/- The document's Whole of a disk, and of a file. -/
namespace Go.Proofs.YtignfbdgpgidpaaGreatDoor
open Go.RowKit FsPlain CrcPlain OctPlain FramePlain RecPlain
set_option linter.unusedVariables false
set_option linter.unusedSimpArgs false
set_option maxRecDepth 20000
def bytes22 (s : St) (n : List UInt8) : List UInt8 := match s.get n with
  | none => []
  | some f => f.data
theorem rwhole_c (d : Nat) (s : St) (nm : List UInt8) (v : Value) (w : World) (hm : s.fs.length ≤ 300) (h : RAt w d s v) :
    Calls Tryz.prog 69 #[.pointer (some ⟨d, 0, none⟩), .string (bs nm)] w fun e w' => e = .returned (.string (bs (bytes22 s nm))) ∧ Gr w w' := by
  have C0 := Lib.hid (rat_c d s nm v w hm h)
  have H := Lib.hid h
  unfold bytes22
  cases hg : s.get nm with
  | none =>
    have hp := place_of_none hg
    rw [hp] at C0
    clear h hg hp hm
    go_enter Tryz.func69, Tryz.ntmps69
    go_wp2_with fail
    refine C0.out.mono ?_; rintro e w2 ⟨rfl, g⟩
    have HG := Lib.hid g
    clear g
    go_wp2_with fail
    go_ret
    exact ⟨rfl, HG.out⟩
  | some f =>
    obtain ⟨k, hp, hk, _⟩ := place_of_some hg
    rw [hp] at C0
    have hkl := (List.getElem?_eq_some_iff.1 hk).1
    have HK := Lib.hid hk
    have q0 : ¬ (k : Int) < 0 := by omega
    have k3 : k ≤ 300 := by omega
    obtain ⟨z, hz⟩ : ∃ z, s.fs.length = z := ⟨_, rfl⟩
    have HZ := Lib.hid hz
    have q1 : (k : Int) < (z : Int) := by omega
    clear h hg hp hm hk
    go_enter Tryz.func69, Tryz.ntmps69
    go_wp2_with fail
    refine C0.out.mono ?_; rintro e w2 ⟨rfl, g⟩
    have HG := Lib.hid g
    obtain ⟨hd, ⟨h1, _⟩ | ⟨b, off, c, rfl, hc, hr⟩⟩ := H.out.gr g
    · rw [h1] at hkl; cases hkl
    · have c1 : w2.cell? ⟨d, 1, none⟩ = some (.slice (some ⟨b, off, none⟩) z c) := by rw [cells_at hd, ← HZ.out]; rfl
      rw [HZ.out] at hc
      obtain ⟨_, q2, _⟩ := fall3_at s.fs k f HK.out
      rw [Nat.mul_comm 3 k] at q2
      have y1 := hr.2 _ _ q2
      rw [← Nat.add_assoc] at y1
      clear g hd hr q2 H C0
      go_wp2_with fail
      go_ret
      exact ⟨rfl, HG.out⟩
def WholeIs (s : St) (n : List UInt8) (size count sum : Int) : Prop := (s.get n).isSome = true ∧ ∃ L, IsFile size (bs (bytes22 s n)) L ∧ (L.length : Int) = count ∧ ((sumN L : Nat) : Int) = sum
def WcCut (size : Int) (t : ByteArray) (W : World) (v5 v6 v7 : Value) (u : World) : Prop := ∃ (q n : Nat) (a : Option Addr) (c : Nat) (cnt sm code : Int), v5 = .slice a n c ∧ v6 = .pointer (some ⟨q, 0, none⟩) ∧ v7 = .int .i64 code ∧ u.heap[q]? = some (.cells #[.int .i64 cnt, .int .u32 sm] 50 (0, 0)) ∧ Gr W u ∧
  ((∃ L, IsFile size t L ∧ n = L.length ∧ sm = (sumN L : Nat) ∧ code = 0) ∨ ((∀ L, ¬ IsFile size t L) ∧ code = 6))
theorem pgot_cases {size : Int} {s : ByteArray} {w w' : World} {e : Ending} (h : PGot size s w e w') : ∃ (a : Option Addr) (n c : Nat) (cnt sm code : Int), e = .returned (.tuple #[.slice a n c, .agg #[.int .i64 cnt, .int .u32 sm], .int .i64 code]) ∧ Gr w w' ∧ ((∃ L, IsFile size s L ∧ n = L.length ∧ sm = (sumN L : Nat) ∧ code = 0) ∨ ((∀ L, ¬ IsFile size s L) ∧ code = 6)) := by
  rcases h with ⟨L, v, h1, rfl, h3, g⟩ | ⟨h1, rfl, g⟩
  · obtain ⟨a, c, rfl, _⟩ := h3
    exact ⟨a, L.length, c, _, _, 0, rfl, g, .inl ⟨L, h1, rfl, rfl, rfl⟩⟩
  · exact ⟨none, 0, 0, 0, 0, 6, rfl, g, .inr ⟨h1, rfl⟩⟩
theorem gr22 (w : World) (o : Obj) : Gr w (w.alloc o) := (Gr.refl w).alloc (Nat.le_refl _) o
theorem grd22 {a b : World} (g : Gr a b) : Gr a b.drew := g.drew
theorem gra22 {a b : World} {o : Obj} (g : Gr a b) : Gr a (b.alloc o) := g.trans (gr22 b o)
theorem grs22 {a b : World} {p i : Nat} {v : Value} (g : Gr a b) (h : a.heap.size ≤ p) : Gr a (b.setCell ⟨p, i, none⟩ v) := Below.setCell g h v
theorem info_zero {u w : World} (g : Gr (u.alloc (.cells #[.int .i64 0, .int .u32 0] 50)) w) : w.heap[u.heap.size]? = some (.cells #[.int .i64 0, .int .u32 0] 50 (0, 0)) := (Below.block g _ (by simp)).trans (heap_alloc_new u _)
theorem info_zerod {u w : World} (g : Gr (u.alloc (.cells #[.int .i64 0, .int .u32 0] 50)).drew w) : w.heap[u.heap.size]? = some (.cells #[.int .i64 0, .int .u32 0] 50 (0, 0)) := info_zero (Gr.ofDrew g)
theorem info_cells {u : World} {q : Nat} {x y : Value} (h : u.heap[q]? = some (.cells #[x, y] 50 (0, 0))) : u.cell? ⟨q, 0, none⟩ = some x ∧ u.cell? ⟨q, 1, none⟩ = some y ∧ u.frozen? ⟨q, 0, none⟩ = false ∧ u.frozen? ⟨q, 1, none⟩ = false :=
  ⟨by rw [cells_at h]; rfl, by rw [cells_at h]; rfl, cells_free h 0, cells_free h 1⟩
theorem wc_new {size : Int} {t : ByteArray} {W u : World} {a : Option Addr} {n c : Nat} {cnt sm code : Int} (g : Gr W u) (h : (∃ L, IsFile size t L ∧ n = L.length ∧ sm = (sumN L : Nat) ∧ code = 0) ∨ ((∀ L, ¬ IsFile size t L) ∧ code = 6)) :
    WcCut size t W (.slice a n c) (.pointer (some ⟨u.heap.size, 0, none⟩)) (.int .i64 code) (u.alloc (.cells #[.int .i64 cnt, .int .u32 sm] 50)) := ⟨_, n, a, c, cnt, sm, code, rfl, rfl, rfl, heap_alloc_new u _, g.trans (gr22 u _), h⟩
theorem wc_set {size : Int} {t : ByteArray} {W u : World} {a : Option Addr} {n c : Nat} {cnt sm code : Int} {q : Nat} (g : Gr W u) (hq : W.heap.size ≤ q) (hz : u.heap[q]? = some (.cells #[.int .i64 0, .int .u32 0] 50 (0, 0))) (h : (∃ L, IsFile size t L ∧ n = L.length ∧ sm = (sumN L : Nat) ∧ code = 0) ∨ ((∀ L, ¬ IsFile size t L) ∧ code = 6)) :
    WcCut size t W (.slice a n c) (.pointer (some ⟨q, 0, none⟩)) (.int .i64 code) ((u.setCell ⟨q, 0, none⟩ (.int .i64 cnt)).setCell ⟨q, 1, none⟩ (.int .u32 sm)) := by
  refine ⟨q, n, a, c, cnt, sm, code, rfl, rfl, rfl, ?_, ?_, h⟩
  · rw [cells_set (cells_set hz 0 _) 1 _]; rfl
  · exact Below.setCell (Below.setCell g hq _) hq _
end Go.Proofs.YtignfbdgpgidpaaGreatDoor
/- The document's Whole of layer 22. -/
namespace Go.Proofs.YtignfbdgpgidpaaGreatDoor
open Go.RowKit FsPlain CrcPlain OctPlain FramePlain RecPlain
set_option linter.unusedVariables false
set_option linter.unusedSimpArgs false
set_option maxRecDepth 20000
set_option maxHeartbeats 4000000 in
theorem rwhole22_c (d : Nat) (s : St) (nm : List UInt8) (v : Value) (w : World) (hm : s.fs.length ≤ 300) (h : RAt w d s v) (size count sum : Int) (hs : I64 size) (hz : (bytes22 s nm).length ≤ 3000) :
    Calls Tryz.prog 34 #[.pointer (some ⟨d, 0, none⟩), .agg #[.string (bs nm), .int .i64 size, .int .i64 count, .int .u32 sum]] w fun e w' => ∃ r, e = .returned (.bool r) ∧ (r = true ↔ WholeIs s nm size count sum) ∧ Gr w w' := by
  have g0 := gr22 w (.cells #[.string (bs nm), .int .i64 size, .int .i64 count, .int .u32 sum] 48)
  have yW : (w.alloc (.cells #[.string (bs nm), .int .i64 size, .int .i64 count, .int .u32 sum] 48)).heap[w.heap.size]? = some (.cells #[.string (bs nm), .int .i64 size, .int .i64 count, .int .u32 sum] 48 (0, 0)) := heap_alloc_new w _
  obtain ⟨W, hW⟩ : ∃ W, w.alloc (.cells #[.string (bs nm), .int .i64 size, .int .i64 count, .int .u32 sum] 48) = W := ⟨_, rfl⟩
  have hWz : w.heap.size < W.heap.size := by rw [← hW]; simp
  rw [hW] at g0 yW
  have HW := Lib.hid hW
  have KF := Lib.hid (fun u (g : Gr W u) => (⟨by rw [cells_at ((Below.block g _ hWz).trans yW)]; rfl, by rw [cells_at ((Below.block g _ hWz).trans yW)]; rfl, by rw [cells_at ((Below.block g _ hWz).trans yW)]; rfl, by rw [cells_at ((Below.block g _ hWz).trans yW)]; rfl⟩ : u.cell? ⟨w.heap.size, 0, none⟩ = some (.string (bs nm)) ∧ u.cell? ⟨w.heap.size, 1, none⟩ = some (.int .i64 size) ∧ u.cell? ⟨w.heap.size, 2, none⟩ = some (.int .i64 count) ∧ u.cell? ⟨w.heap.size, 3, none⟩ = some (.int .u32 sum)))
  have CW := Lib.hid (fun u (g : Gr W u) => rwhole_c d s nm v u hm (h.gr (g0.trans g)))
  have CH := Lib.hid (fun u (g : Gr W u) => rhas_c d s nm v u hm (h.gr (g0.trans g)))
  obtain ⟨t, ht⟩ : ∃ t, bs (bytes22 s nm) = t := ⟨_, rfl⟩
  have CP := Lib.hid (fun u => (rparse_c size hs t (by rw [← ht, bs_size]; exact hz) u).mono fun e w' h => pgot_cases h)
  have HT := Lib.hid ht
  have G0 := Lib.hid g0
  rw [ht] at CW
  obtain ⟨N, hN⟩ : ∃ N, bs nm = N := ⟨_, rfl⟩
  rw [hN] at KF CW CH ⊢
  rw [hN] at HW
  obtain ⟨hb, hhb⟩ : ∃ b, (s.get nm).isSome = b := ⟨_, rfl⟩
  rw [hhb] at CH
  have HB := Lib.hid hhb
  clear g0 yW hW hWz h hm hz ht hN hhb hs
  go_enter Tryz.func34, Tryz.ntmps34
  go_wp2_with fail
  rw [HW.out]
  go_cut [5, 6, 7] (fun v5 v6 v7 wx => WcCut size t W v5 v6 v7 wx)
  case first =>
    obtain ⟨x0, x1, _, _⟩ := KF.out W (Gr.refl _)
    go_region_held3 (fun u => Gr W u ∧ u.cell? ⟨w.heap.size, 0, none⟩ = some (.string N) ∧ u.cell? ⟨w.heap.size, 1, none⟩ = some (.int .i64 size))
      (first | assumption | (refine (fun g => ⟨g, (KF.out _ g).1, (KF.out _ g).2.1⟩ : Gr W _ → _) ?_; (repeat (first | assumption | exact Gr.refl _ | refine grd22 ?_ | refine gra22 ?_ | refine grs22 ?_ (by first | exact Nat.le_refl _ | exact q4.size | exact q5.size)))) | go_keep)
      (first
        | (go_at_call 69; (with_reducible refine (CW.out _ (by repeat (first | assumption | exact Gr.refl _ | refine grd22 ?_ | refine gra22 ?_))).mono ?_); rintro e t4 ⟨rfl, g4⟩; have q4 : Gr W t4 := Gr.trans (by repeat (first | assumption | exact Gr.refl _ | refine grd22 ?_ | refine gra22 ?_)) g4)
        | (go_at_call 68; (with_reducible refine (CP.out _).mono ?_); rintro e t5 ⟨a5, n5, c5, cnt, sm, code, rfl, g5, hres⟩; have q5 : Gr W t5 := Gr.trans (by repeat (first | assumption | exact Gr.refl _ | refine grd22 ?_ | refine gra22 ?_)) g5; (first | (have zb := info_zerod (Gr.trans g4 g5); obtain ⟨z0, z1, zf0, zf1⟩ := info_cells zb) | (have zb := info_zero (Gr.trans g4 g5); obtain ⟨z0, z1, zf0, zf1⟩ := info_cells zb) | (have zb := info_zerod g5; obtain ⟨z0, z1, zf0, zf1⟩ := info_cells zb) | (have zb := info_zero g5; obtain ⟨z0, z1, zf0, zf1⟩ := info_cells zb) | skip)))
    all_goals
      have hres := Lib.hid hres
      go_wp2_with fail
      go_meet
    all_goals first
      | exact wc_new q5 hres.out
      | exact wc_set q5 (Nat.le_refl _) zb hres.out
      | exact wc_set q5 q4.size zb hres.out
  case rest =>
  obtain ⟨q, n, a, c, cnt, sm, code, rfl, rfl, rfl, hq, gx, hres⟩ := hcut
  have GX := Lib.hid gx
  have KQ := Lib.hid (fun u (g : Gr wc u) => (info_cells ((Below.block g q (lt_of_block hq)).trans hq)).2.1)
  have CHx := Lib.hid (CH.out wc gx)
  obtain ⟨y0, y1, y2, y3⟩ := KF.out wc gx
  rename World => w5
  have KF5 := Lib.hid (fun u (g : Gr w5 u) => KF.out u (GX.out.trans g))
  clear hq gx CW CP CH KF y0 y1 y2 y3
  cases hb with
  | false =>
    have HN := Lib.hid (show ∀ (r : Bool), r = false → (r = true ↔ WholeIs s nm size count sum) from fun r hr => ⟨fun h => (by rw [hr] at h; cases h), fun h => (by have := h.1; rw [HB.out] at this; cases this)⟩)
    obtain ⟨y0, y1, y2, y3⟩ := KF5.out w5 (Gr.refl _)
    clear hres
    go_wp2_with fail
    refine CHx.out.mono ?_; rintro e u ⟨rfl, g⟩
    have G := Lib.hid ((G0.out.trans GX.out).trans g)
    clear g
    go_wp2_with fail
    go_ret
    exact ⟨false, rfl, HN.out false rfl, G.out⟩
  | true =>
    rcases hres with ⟨L, hL, rfl, rfl, rfl⟩ | ⟨hno, rfl⟩
    · have HL := Lib.hid hL
      obtain ⟨y0, y1, y2, y3⟩ := KF5.out w5 (Gr.refl _)
      have HIF := Lib.hid (show ∀ r : Bool, (r = true ↔ ((L.length : Int) = count ∧ ((sumN L : Nat) : Int) = sum)) → (r = true ↔ WholeIs s nm size count sum) from fun r hr => by
        rw [hr]
        refine ⟨fun h => ⟨HB.out, L, by rw [HT.out]; exact HL.out, h.1, h.2⟩, fun ⟨_, M, hM, h1, h2⟩ => ?_⟩
        rw [HT.out] at hM
        have := file_one HL.out hM
        subst this
        exact ⟨h1, h2⟩)
      clear hL
      have KQ5 := Lib.hid (fun u (g : Gr w5 u) => KQ.out u g)
      by_cases hc : (L.length : Int) = count
      · have b1 : ((L.length : Int) == count) = true := by simpa using hc
        by_cases hsum : ((sumN L : Nat) : Int) = sum
        · have b2 : (((sumN L : Nat) : Int) == sum) = true := by simpa using hsum
          have HR := Lib.hid (show WholeIs s nm size count sum from (HIF.out true ⟨fun _ => ⟨hc, hsum⟩, fun _ => rfl⟩).1 rfl)
          clear hc hsum
          go_wp2_with fail
          refine CHx.out.mono ?_; rintro e u ⟨rfl, g⟩
          obtain ⟨u0, u1, u2, u3⟩ := KF5.out u g
          have kq := KQ5.out u g
          have G := Lib.hid ((G0.out.trans GX.out).trans g)
          clear g
          go_wp2_with fail
          go_ret
          exact ⟨true, rfl, ⟨fun _ => HR.out, fun _ => rfl⟩, G.out⟩
        · have b2 : (((sumN L : Nat) : Int) == sum) = false := by simpa using hsum
          have HR := Lib.hid (HIF.out false ⟨fun h => (by cases h), fun h => absurd h.2 hsum⟩)
          clear hc hsum
          go_wp2_with fail
          refine CHx.out.mono ?_; rintro e u ⟨rfl, g⟩
          obtain ⟨u0, u1, u2, u3⟩ := KF5.out u g
          have kq := KQ5.out u g
          have G := Lib.hid ((G0.out.trans GX.out).trans g)
          clear g
          go_wp2_with fail
          go_ret
          exact ⟨false, rfl, HR.out, G.out⟩
      · have b1 : ((L.length : Int) == count) = false := by simpa using hc
        have HR := Lib.hid (HIF.out false ⟨fun h => (by cases h), fun h => absurd h.1 hc⟩)
        clear hc
        go_wp2_with fail
        refine CHx.out.mono ?_; rintro e u ⟨rfl, g⟩
        obtain ⟨u0, u1, u2, u3⟩ := KF5.out u g
        have G := Lib.hid ((G0.out.trans GX.out).trans g)
        clear g
        go_wp2_with fail
        go_ret
        exact ⟨false, rfl, HR.out, G.out⟩
    · have HN := Lib.hid (show (false = true ↔ WholeIs s nm size count sum) from ⟨fun h => (by cases h), fun ⟨_, M, hM, _⟩ => by rw [HT.out] at hM; exact absurd hM (hno M)⟩)
      obtain ⟨y0, y1, y2, y3⟩ := KF5.out w5 (Gr.refl _)
      clear hno
      go_wp2_with fail
      refine CHx.out.mono ?_; rintro e u ⟨rfl, g⟩
      have G := Lib.hid ((G0.out.trans GX.out).trans g)
      clear g
      go_wp2_with fail
      go_ret
      exact ⟨false, rfl, HN.out, G.out⟩
end Go.Proofs.YtignfbdgpgidpaaGreatDoor
/- Contracts of both Lengths. -/
namespace Go.Proofs.YtignfbdgpgidpaaGreatDoor
open Go.RowKit CrcPlain OctPlain FramePlain RecPlain
set_option linter.unusedVariables false
set_option linter.unusedSimpArgs false
set_option maxRecDepth 20000
def lenB (size n : Int) : Bool := sizeB size && decide (0 ≤ n ∧ n ≤ 1099511627776)
def lenN (size n : Int) : Int := if lenB size n = true then 28 + 5 * ((n + 3) / 4) + n * size else 0
theorem lenN_no {size n : Int} (h : lenB size n = false) : lenN size n = 0 := by simp [lenN, h]
theorem lenN_yes {size n : Int} (h : lenB size n = true) : lenN size n = 28 + 5 * ((n + 3) / 4) + n * size := by simp [lenN, h]
theorem mul_le {a b c d : Int} (ha : 0 ≤ a) (hac : a ≤ c) (hb : 0 ≤ b) (hbd : b ≤ d) : 0 ≤ a * b ∧ a * b ≤ c * d :=
  ⟨Int.mul_nonneg ha hb, Int.mul_le_mul hac hbd hb (Int.le_trans ha hac)⟩
set_option maxHeartbeats 1000000 in
theorem length_c (k n : Int) (hk : I64 k) (hn : I64 n) (w : World) :
    Calls Tryz.prog 124 #[.int .i64 k, .int .i64 n] w fun e w' => e = .returned (.int .i64 (lenN k n)) ∧ w = w' := by
  have R := fun w => rsized_c k hk w
  cases hs : sizeB k
  · rw [hs] at R
    have HR := Lib.hid (lenN_no (show lenB k n = false by unfold lenB; rw [hs]; rfl))
    clear hs
    go_enter Tryz.func124, Tryz.ntmps124
    go_wp2_with fail
    refine (R _).mono ?_; rintro e u ⟨rfl, rfl⟩
    go_wp2_with fail
    go_ret
    exact ⟨ret_i HR.out.symm, rfl⟩
  · rw [hs] at R
    by_cases h : 0 ≤ n ∧ n ≤ 1099511627776
    · have hb : lenB k n = true := by unfold lenB; rw [hs, decide_eq_true h]; rfl
      have HR := Lib.hid (lenN_yes hb)
      have Q := fun w => room_c k hk w
      have hr : roomN k = 5 + 4 * k := by unfold roomN; rw [if_pos hs]
      simp only [sizeB, decide_eq_true_eq] at hs
      obtain ⟨h0, h1⟩ := h
      have hr0 : 0 ≤ roomN k ∧ roomN k ≤ 261 := by omega
      obtain ⟨r, hrr⟩ : ∃ r, r = roomN k := ⟨_, rfl⟩
      rw [← hrr] at Q hr hr0
      have HRR := Lib.hid hr
      clear hrr hr hb
      go_enter Tryz.func124, Tryz.ntmps124
      go_wp2_with fail
      refine (R _).mono ?_; rintro e u ⟨rfl, rfl⟩
      go_wp2_with fail
      refine (Q _).mono ?_; rintro e u ⟨rfl, rfl⟩
      go_wp2_with fail
      go_ret
      have hB := mul_le h0 h1 (show 0 ≤ k by omega) hs.2
      have hq : n + 4 - 1 = n + 3 := by omega
      have hq0 : 0 ≤ (n + 3) / 4 ∧ (n + 3) / 4 ≤ 274877906944 := by omega
      have hA := mul_le hq0.1 hq0.2 (show 0 ≤ k by omega) hs.2
      have hP : (n + 3) / 4 * r = 5 * ((n + 3) / 4) + 4 * ((n + 3) / 4 * k) := by
        rw [HRR.out, Int.mul_add, Int.mul_comm _ 5, ← Int.mul_assoc, Int.mul_comm _ 4, Int.mul_assoc]
      have hM : ((n + 3) / 4 * 4 - n) * k = 4 * ((n + 3) / 4 * k) - n * k := by
        rw [Int.sub_mul, Int.mul_comm ((n + 3) / 4) 4, Int.mul_assoc]
      have hout := HR.out
      refine ⟨ret_i ?_, rfl⟩
      rw [hout, hq, hP, hM]
      generalize (n + 3) / 4 * k = A at hA ⊢
      generalize n * k = B at hB ⊢
      unfold wrap64
      omega
    · have hb : lenB k n = false := by unfold lenB; rw [decide_eq_false h, Bool.and_false]
      have HR := Lib.hid (lenN_no hb)
      by_cases h0 : n < 0
      · clear h hs hb
        go_enter Tryz.func124, Tryz.ntmps124
        go_wp2_with fail
        refine (R _).mono ?_; rintro e u ⟨rfl, rfl⟩
        go_wp2_with fail
        go_ret
        exact ⟨ret_i HR.out.symm, rfl⟩
      · have h1 : 1099511627776 < n := by omega
        clear h hs hb
        go_enter Tryz.func124, Tryz.ntmps124
        go_wp2_with fail
        refine (R _).mono ?_; rintro e u ⟨rfl, rfl⟩
        go_wp2_with fail
        go_ret
        exact ⟨ret_i HR.out.symm, rfl⟩
end Go.Proofs.YtignfbdgpgidpaaGreatDoor
/- The laws' Few of strings. -/
namespace Go.Proofs.YtignfbdgpgidpaaGreatDoor
open Go.RowKit
set_option linter.unusedVariables false
set_option linter.unusedSimpArgs false
set_option maxRecDepth 20000
def few6 (l : List ByteArray) (m : Nat) : Bool := decide (l.length ≤ m) && (l.take m).all (fun s => decide (s.size ≤ 80))
theorem few6_yes {l : List ByteArray} {m : Nat} (h : few6 l m = true) : l.length ≤ m ∧ ∀ s ∈ l, s.size ≤ 80 := by
  unfold few6 at h
  simp only [Bool.and_eq_true, decide_eq_true_eq, List.all_eq_true] at h
  refine ⟨h.1, fun s hs => h.2 s ?_⟩
  rw [List.take_of_length_le h.1]; exact hs
theorem retbF {a b : Bool} (h : a = b) : Ending.returned (.bool a) = .returned (.bool b) := by rw [h]
def Few6At (l : List ByteArray) (m : Nat) (w : World) (i : Value) (wr : World) : Prop := ∃ j : Nat, j ≤ m ∧ j ≤ l.length ∧ i = .int .i64 j ∧ wr = w ∧ (l.take j).all (fun s => decide (s.size ≤ 80)) = true
theorem few6_c {w : World} {v : Value} {l : List ByteArray} (h : Lies w v l) (m : Nat) (hm : m ≤ 100) (hl : l.length ≤ 9223372036854775807) :
    Calls Tryz.prog 28 #[v, .int .i64 (m : Int)] w fun e w' => e = .returned (.bool (few6 l m)) ∧ w = w' := by
  obtain ⟨a, c, rfl, hc, h⟩ := h
  obtain ⟨n, hn⟩ : ∃ n, l.length = n := ⟨_, rfl⟩
  have HN := Lib.hid hn
  have H0 : 1 ≤ n → ∃ b off, a = some ⟨b, off, none⟩ ∧ SRow w b off l := fun h1 => h.elim (fun h0 => by rw [h0] at hn; simp at hn; omega) id
  have H := Lib.hid H0
  rw [hn] at hl ⊢
  have hl2 : (n : Int) ≤ 9223372036854775807 := by omega
  clear h hc hn H0 hl
  go_enter Tryz.func28, Tryz.ntmps28
  go_wp2_with fail
  go_loopw [5] (fun i wr => Few6At l m w i wr) (fun i _ => n - (intOf i).toNat)
  case atStart => exact ⟨0, Nat.zero_le _, Nat.zero_le _, rfl, rfl, rfl⟩
  case round =>
    obtain ⟨j, hjm, hj, rfl, rfl, hall⟩ := hrel
    have hln := HN.out
    by_cases hlt : j < n
    · by_cases h10 : j < m
      · obtain ⟨x, hx, hstep, hmem⟩ := take_at (l := l) (j := j) (by omega)
        obtain ⟨b, off, rfl, hr⟩ := H.out (by omega)
        have hcx := hr.2 j x hx
        by_cases hz : x.size ≤ 80
        · have hnext : (l.take (j + 1)).all (fun s => decide (s.size ≤ 80)) = true := by rw [hstep, List.all_append, hall]; simpa using hz
          have HX := Lib.hid hnext
          have hz2 : ¬ (80 : Int) < x.size := by omega
          have d1 : (j : Int) < (m : Int) := by omega
          clear hnext hstep hall hx hmem hz hr H
          go_wp2_with fail
          refine ⟨⟨j + 1, by omega, by have := HN.out; omega, rfl, rfl, HX.out⟩, ?_⟩
          simp [intOf]; omega
        · have hno : few6 l m = false := by
            unfold few6
            cases hd : decide (l.length ≤ m)
            · rfl
            · rw [decide_eq_true_iff] at hd
              rw [List.take_of_length_le hd, Bool.true_and, List.all_eq_false]
              exact ⟨x, hmem, by simpa using hz⟩
          have HX := Lib.hid hno
          have hz2 : (80 : Int) < x.size := by omega
          have d1 : (j : Int) < (m : Int) := by omega
          clear hno hstep hall hx hmem hz hr H
          go_wp2_with fail
          go_ret
          exact ⟨retbF HX.out.symm, rfl⟩
      · obtain rfl : j = m := by omega
        have hno : few6 l j = false := by unfold few6; rw [decide_eq_false (by omega)]; rfl
        have HX := Lib.hid hno
        have hx2 : ¬ (n : Int) ≤ (j : Int) := by omega
        clear hno hall H
        go_wp2_with fail
        go_ret
        exact ⟨retbF HX.out.symm, rfl⟩
    · obtain rfl : j = n := by omega
      have hyes : few6 l m = true := by
        unfold few6
        rw [decide_eq_true (by omega), List.take_of_length_le (by omega)]
        rw [List.take_of_length_le (by omega)] at hall
        rw [hall]; rfl
      have HX := Lib.hid hyes
      have hx2 : (j : Int) ≤ (m : Int) := by omega
      clear hyes hall H
      go_wp2_with fail
      go_ret
      exact ⟨retbF HX.out.symm, rfl⟩
end Go.Proofs.YtignfbdgpgidpaaGreatDoor
/- The law's Few; Parse of a file and of none; the chapter's example. -/
namespace Go.Proofs.YtignfbdgpgidpaaGreatDoor
open Go.RowKit CrcPlain OctPlain FramePlain RecPlain
set_option linter.unusedVariables false
set_option linter.unusedSimpArgs false
set_option maxRecDepth 20000
theorem lay_file {size : Int} {L : List ByteArray} (h : layB size L = true) : IsFile size (layR size L) L := ⟨h, by rw [layR_yes h, bs_data]⟩
theorem lay_size {size : Int} {L : List ByteArray} (h : layB size L = true) : ((layR size L).size : Int) = 28 + 5 * (((L.length : Int) + 3) / 4) + L.length * size := by
  have hs := h
  unfold layB at hs
  rw [Bool.and_eq_true] at hs
  have h1 := hs.1
  simp only [sizeB, decide_eq_true_eq] at h1
  obtain ⟨m, rfl⟩ : ∃ m : Nat, size = m := ⟨size.toNat, by omega⟩
  rw [layR_yes h, bs_size, layL_length h]
  unfold cnt4
  rw [Int.natCast_add, Int.natCast_add, Int.natCast_mul]
  omega
end Go.Proofs.YtignfbdgpgidpaaGreatDoor
/- Both Parses, as one: what they come to of any bytes. -/
namespace Go.Proofs.YtignfbdgpgidpaaGreatDoor
open Go.RowKit CrcPlain OctPlain FramePlain RecPlain
set_option linter.unusedVariables false
set_option linter.unusedSimpArgs false
set_option maxRecDepth 20000
theorem file_len {size : Int} {s : ByteArray} {L : List ByteArray} (h : IsFile size s L) : L.length ≤ s.size := by
  have h1 := blks_ge _ (ups_blk h.1)
  rw [ups_all] at h1
  have h2 := congrArg List.length h.2
  unfold layL at h2
  rw [data_length, List.length_append, List.length_append] at h2
  omega
end Go.Proofs.YtignfbdgpgidpaaGreatDoor
/- Plain facts: a file cut short, a file that goes on, a file of which bits are turned, is none. -/
namespace Go.Proofs.YtignfbdgpgidpaaGreatDoor
open Go.RowKit CrcPlain OctPlain FramePlain RecPlain
set_option linter.unusedVariables false
set_option linter.unusedSimpArgs false
set_option maxRecDepth 20000
theorem turn_behind : ∀ {a : List UInt8} {b l' : List UInt8} {first v : Nat}, Turn (a ++ b) l' first v → 8 * a.length ≤ first → ∃ b', l' = a ++ b' ∧ Turn b b' (first - 8 * a.length) v
  | [], b, l', first, v, h, _ => ⟨l', rfl, by simpa using h⟩
  | x :: a, b, l', first, v, h, hf => by
    rw [List.length_cons] at hf
    obtain ⟨r', rfl⟩ := turn_head (b := x) (r := a ++ b) h (by omega)
    have ht : Turn (a ++ b) r' (first - 8) v := by
      obtain ⟨hl, he⟩ := h
      refine ⟨by simpa using hl, ?_⟩
      rw [List.cons_append, le_cons, le_cons] at he
      have e1 : 2 ^ first * v = 2 ^ 8 * (2 ^ (first - 8) * v) := by
        rw [← Nat.mul_assoc, ← Nat.pow_add]
        congr 2
        omega
      rw [e1] at he
      have e2 : 2 ^ 8 * le r' = 2 ^ 8 * (le (a ++ b) ^^^ 2 ^ (first - 8) * v) := by
        rw [mul_xor]
        have h3 := congrArg (x.toNat ^^^ ·) he
        simp only [← Nat.xor_assoc, Nat.xor_self, Nat.zero_xor] at h3
        exact h3
      exact Nat.eq_of_mul_eq_mul_left (by decide) e2
    obtain ⟨b', rfl, hb⟩ := turn_behind ht (by omega)
    exact ⟨b', rfl, by rw [List.length_cons, show first - 8 * (a.length + 1) = first - 8 - 8 * a.length by omega]; exact hb⟩
theorem le_app : ∀ (a b : List UInt8), le (a ++ b) = le a + 2 ^ (8 * a.length) * le b
  | [], b => by simp [le]
  | x :: a, b => by
    rw [List.cons_append, le, le, le_app a b, List.length_cons, Nat.mul_add, show 8 * (a.length + 1) = 8 + 8 * a.length by omega, Nat.pow_add, ← Nat.mul_assoc, ← Nat.add_assoc]
theorem turn_ahead {a b l' : List UInt8} {first v : Nat} (h : Turn (a ++ b) l' first v) (hv : 2 ^ first * v < 2 ^ (8 * a.length)) : ∃ a', l' = a' ++ b ∧ Turn a a' first v := by
  obtain ⟨hl, he⟩ := h
  have hla : (l'.take a.length).length = a.length := by rw [List.length_take, hl, List.length_append]; omega
  have hlb : (l'.drop a.length).length = b.length := by rw [List.length_drop, hl, List.length_append]; omega
  have e0 : l' = l'.take a.length ++ l'.drop a.length := (List.take_append_drop _ _).symm
  rw [e0, le_app, le_app, hla] at he
  have ha := le_lt a
  have ht := le_lt (l'.take a.length)
  rw [hla] at ht
  have hx : le a ^^^ 2 ^ first * v < 2 ^ (8 * a.length) := Nat.xor_lt_two_pow ha hv
  have hr : (le a + 2 ^ (8 * a.length) * le b) ^^^ 2 ^ first * v = (le a ^^^ 2 ^ first * v) + 2 ^ (8 * a.length) * le b := by
    rw [add_xor _ ha, add_xor _ hx, Nat.xor_assoc, Nat.xor_comm (2 ^ (8 * a.length) * le b), ← Nat.xor_assoc]
  rw [hr] at he
  have h1 : le (l'.take a.length) = le a ^^^ 2 ^ first * v := by
    have := congrArg (fun x => x % 2 ^ (8 * a.length)) he
    simp only [Nat.add_mul_mod_self_left] at this
    rwa [Nat.mod_eq_of_lt ht, Nat.mod_eq_of_lt hx] at this
  have h2 : le (l'.drop a.length) = le b := by
    rw [h1] at he
    exact Nat.eq_of_mul_eq_mul_left (Nat.pow_pos (by decide)) (Nat.add_left_cancel he)
  have h3 := le_inj hlb h2
  refine ⟨l'.take a.length, ?_, hla, h1⟩
  rw [← h3]; exact e0
end Go.Proofs.YtignfbdgpgidpaaGreatDoor
