/- In one text: MnRef4, OctPut, OctPut2. -/
import Derived.Test.YtckmciafonnohaaP19
import Derived.Test.YtckmciafonnohaaP00
import Derived.Test.YtckmciafonnohaaP14
import Derived.WalkKit
import Derived.ProofKit
import Derived.Below
import Derived.Handy
import Derived.WalkLawsBesides
import Derived.Outline
import Derived.Test.YtckmciafonnohaaP15
/- The document's answers of layer 19: Same. -/
namespace Go.Proofs.Ytckmciafonnohaa
open Go.RowKit FsPlain MnPlain
set_option linter.unusedVariables false
set_option linter.unusedSimpArgs false
set_option maxRecDepth 20000
namespace MnPlain
def flEq (x y : Fl) : Bool := decide (x.name = y.name) && (decide (x.size = y.size) && (decide (x.count = y.count) && decide (x.sum = y.sum)))
theorem flEq_iff {x y : Fl} : flEq x y = true ↔ x = y := by
  obtain ⟨a, b, c, d⟩ := x
  obtain ⟨a2, b2, c2, d2⟩ := y
  simp [flEq]
def flsEq : List Fl → List Fl → Bool
  | [], [] => true
  | x :: l, y :: m => flEq x y && flsEq l m
  | _, _ => false
theorem flsEq_iff : ∀ {l m : List Fl}, flsEq l m = true ↔ l = m
  | [], [] => by simp [flsEq]
  | [], y :: m => by simp [flsEq]
  | x :: l, [] => by simp [flsEq]
  | x :: l, y :: m => by
    show (flEq x y && flsEq l m) = true ↔ _
    rw [Bool.and_eq_true, flEq_iff, flsEq_iff, List.cons.injEq]
theorem flsEq_len {l m : List Fl} (h : l.length ≠ m.length) : flsEq l m = false := by
  cases e : flsEq l m
  · rfl
  · rw [flsEq_iff.1 e] at h
    exact absurd rfl h
theorem flsEq_step {l m : List Fl} {i : Nat} (h1 : i < l.length) (h2 : i < m.length) : flsEq (l.drop i) (m.drop i) = (flEq l[i] m[i] && flsEq (l.drop (i + 1)) (m.drop (i + 1))) := by
  rw [List.drop_eq_getElem_cons h1, List.drop_eq_getElem_cons h2]
  rfl
def mnEq (x y : Mn) : Bool := decide (x.stage = y.stage) && (decide (x.pass = y.pass) && flsEq x.files y.files)
theorem mnEq_iff {x y : Mn} : mnEq x y = true ↔ x = y := by
  obtain ⟨a, b, c⟩ := x
  obtain ⟨a2, b2, c2⟩ := y
  simp [mnEq, flsEq_iff]
end MnPlain
def flC (x : Fl) : Value := .agg #[.string x.name, .int .i64 x.size, .int .i64 x.count, .int .u32 x.sum]
theorem fl_equal (x y : Fl) (w : World) : (Op.equalIn 10000 61 (.agg #[.string x.name, .int .i64 x.size, .int .i64 x.count, .int .u32 x.sum]) (.agg #[.string y.name, .int .i64 y.size, .int .i64 y.count, .int .u32 y.sum])).run Try.prog w = .ok (flEq x y) w := by
  rw [run_equalIn_agg w 9999 _ _ _ (by kernel_rfl) (by kernel_rfl)]
  obtain ⟨a, b, c, d⟩ := x
  obtain ⟨a2, b2, c2, d2⟩ := y
  unfold flEq
  by_cases h1 : a = a2
  · by_cases h2 : b = b2
    · by_cases h3 : c = c2
      · by_cases h4 : d = d2 <;> simp [go_sem, h1, h2, h3, h4]
      · simp [go_sem, h1, h2, h3]
    · simp [go_sem, h1, h2]
  · have e : (a.toList == a2.toList) = false := by
      rw [beq_eq_false_iff_ne]
      exact fun k => h1 (ByteArray.ext (Array.toList_inj.1 (by rw [← Lib.toList_data, ← Lib.toList_data, k])))
    simp [go_sem, h1, e]
theorem fl_neq (x y : Fl) (w : World) : (binOp .neq 61 (.agg #[.string x.name, .int .i64 x.size, .int .i64 x.count, .int .u32 x.sum]) (.agg #[.string y.name, .int .i64 y.size, .int .i64 y.count, .int .u32 y.sum])).run Try.prog w = .ok (.bool (!flEq x y)) w := by
  rw [run_neq_struct, fl_equal]
  simp
/-- At the head of a round. -/
def SmAt (l m : List Fl) (w1 : World) (v : Value) (wr : World) : Prop := ∃ i : Nat, i ≤ l.length ∧ v = .int .i64 (i : Int) ∧ flsEq l m = flsEq (l.drop i) (m.drop i) ∧ Gr w1 wr
set_option maxHeartbeats 4000000 in
theorem rsame19_c (s1 p1 s2 p2 : Int) (a b : Option Addr) (n1 n2 c1 c2 : Nat) (l m : List Fl) (w : World) (h1 : LiesFl w (.slice a n1 c1) l) (h2 : LiesFl w (.slice b n2 c2) m) (hl : l.length ≤ maxLen) (hm : m.length ≤ maxLen) :
    Calls Try.prog 11 #[.agg #[.int .i64 s1, .int .i64 p1, .slice a n1 c1], .agg #[.int .i64 s2, .int .i64 p2, .slice b n2 c2]] w fun e w' => e = .returned (.bool (mnEq ⟨s1, p1, l⟩ ⟨s2, p2, m⟩)) ∧ Gr w w' := by
  have hn1 : n1 = l.length := by
    obtain ⟨a', c', e, hc, _⟩ := h1
    simp only [Value.slice.injEq] at e
    exact e.2.1
  have hn2 : n2 = m.length := by
    obtain ⟨a', c', e, hc, _⟩ := h2
    simp only [Value.slice.injEq] at e
    exact e.2.1
  subst hn1 hn2
  obtain ⟨r, hr⟩ : ∃ r, mnEq ⟨s1, p1, l⟩ ⟨s2, p2, m⟩ = r := ⟨_, rfl⟩
  rw [hr]
  unfold maxLen at hl hm
  unfold mnEq at hr
  simp only at hr
  have H1 := Lib.hid h1
  have H2 := Lib.hid h2
  obtain ⟨W, hW⟩ : ∃ W, W = (w.alloc (.cells #[.int .i64 s1, .int .i64 p1, .slice a l.length c1] 31)).alloc (.cells #[.int .i64 s2, .int .i64 p2, .slice b m.length c2] 31) := ⟨_, rfl⟩
  have gW : Gr w W := by rw [hW]; exact ((Gr.refl w).alloc (Nat.le_refl _) _).alloc (by simp) _
  have GW := Lib.hid gW
  clear h1 h2
  by_cases e1 : s1 = s2
  · subst e1
    by_cases e2 : p1 = p2
    · subst e2
      by_cases e3 : l.length = m.length
      · rw [decide_eq_true rfl, decide_eq_true rfl, Bool.true_and, Bool.true_and] at hr
        have e3b : ((l.length : Int) != (m.length : Int)) = false := by simp [e3]
        have HR := Lib.hid hr
        have HE := Lib.hid e3
        have A2 := Lib.hid (show ∀ u, Gr W u → u.cell? ⟨w.heap.size, 2, none⟩ = some (.slice a l.length c1) ∧ u.cell? ⟨w.heap.size + 1, 2, none⟩ = some (.slice b m.length c2) from fun u g => by
          have hz : W.heap.size = w.heap.size + 2 := by rw [hW]; simp
          have y0 : W.heap[w.heap.size]? = some (.cells #[.int .i64 s1, .int .i64 p1, .slice a l.length c1] 31 (0, 0)) := by
            rw [hW, Below.heap_alloc _ _ _ (by simp)]
            exact heap_alloc_new w _
          have y1 : W.heap[w.heap.size + 1]? = some (.cells #[.int .i64 s1, .int .i64 p1, .slice b m.length c2] 31 (0, 0)) := by
            rw [hW, ← World.size_alloc w (.cells #[.int .i64 s1, .int .i64 p1, .slice a l.length c1] 31)]
            exact heap_alloc_new _ _
          rw [g.cell (p := ⟨w.heap.size, 2, none⟩) (show w.heap.size < W.heap.size by omega), g.cell (p := ⟨w.heap.size + 1, 2, none⟩) (show w.heap.size + 1 < W.heap.size by omega), cells_at y0, cells_at y1]
          exact ⟨rfl, rfl⟩)
        have HW := Lib.hid hW
        clear hr gW e3
        go_enter Try.func11, Try.ntmps11
        go_wp2_with fail
        rw [← HW.out]
        go_loopw [5] (fun v wr => SmAt l m W v wr) (fun v _ => l.length - (intOf v).toNat)
        case atStart => exact ⟨0, Nat.zero_le _, rfl, by rw [List.drop_zero, List.drop_zero], Gr.refl _⟩
        case round =>
          clear hW e3b
          obtain ⟨i, hi1, rfl, hst, g1⟩ := hrel
          obtain ⟨a2, b2⟩ := A2.out wr g1
          have G := GW.out.trans g1
          by_cases hlt : i < l.length
          · have hlt2 : i < m.length := by rw [← HE.out]; exact hlt
            obtain ⟨_, hc, ab, ao, rfl, hb, ⟨k0, k1, k2, k3⟩⟩ := fl_get (H1.out.gr G) hlt
            obtain ⟨_, hc2, bb, bo, rfl, hb2, ⟨j0, j1, j2, j3⟩⟩ := fl_get (H2.out.gr G) hlt2
            have q1 : (i : Int) < (l.length : Int) := by omega
            have q2 : (i : Int) < (m.length : Int) := by omega
            have hstep := flsEq_step hlt hlt2
            have NE := fun w => fl_neq l[i] m[i] w
            cases he : flEq l[i] m[i]
            · have er : r = false := by rw [← HR.out, hst, hstep, he, Bool.false_and]
              subst er
              rw [he] at NE
              clear hst hstep he
              go_wp2_with fail
              go_region
              go_wp2
              go_ret
              exact ⟨rfl, G.drew⟩
            · have NX := Lib.hid (show flsEq l m = flsEq (l.drop (i + 1)) (m.drop (i + 1)) by rw [hst, hstep, he, Bool.true_and])
              rw [he] at NE
              clear hst hstep he
              go_wp2_with fail
              go_region
              go_wp2
              go_roundw
              case rel => exact ⟨i + 1, by omega, by rw [show ((i + 1 : Nat) : Int) = (i : Int) + 1 by omega], NX.out, g1.drew⟩
              case measure => simp [intOf]; omega
          · have hie : i = l.length := by omega
            have er : r = true := by
              rw [← HR.out, hst, hie, List.drop_length, HE.out, List.drop_length]
              rfl
            subst er
            have q1 : ¬ (i : Int) < (l.length : Int) := by omega
            clear hst
            go_wp2_with fail
            go_ret
            exact ⟨rfl, G⟩
      · have er : r = false := by rw [← hr, flsEq_len e3, Bool.and_false, Bool.and_false]
        have e3b : ((l.length : Int) != (m.length : Int)) = true := by
          rw [bne_iff_ne]
          omega
        subst er
        clear hr e3 hW
        go_enter Try.func11, Try.ntmps11
        go_wp2_with fail
        go_ret
        exact ⟨rfl, ((Gr.refl w).alloc (Nat.le_refl _) _).alloc (by simp) _⟩
    · have er : r = false := by rw [← hr, decide_eq_false e2, Bool.false_and, Bool.and_false]
      have e2b : (p1 != p2) = true := by simpa using e2
      subst er
      clear hr hW
      go_enter Try.func11, Try.ntmps11
      go_wp2_with fail
      go_ret
      exact ⟨rfl, ((Gr.refl w).alloc (Nat.le_refl _) _).alloc (by simp) _⟩
  · have er : r = false := by rw [← hr, decide_eq_false e1, Bool.false_and]
    have e1b : (s1 != s2) = true := by simpa using e1
    subst er
    clear hr hW
    go_enter Try.func11, Try.ntmps11
    go_wp2_with fail
    go_ret
    exact ⟨rfl, ((Gr.refl w).alloc (Nat.le_refl _) _).alloc (by simp) _⟩
end Go.Proofs.Ytckmciafonnohaa
/- Contracts of layer octet's functions that make bytes, and of the document's answers to them, each by a walk of its text. -/
namespace Go.Proofs.Ytckmciafonnohaa
open Go.RowKit OctPlain
set_option linter.unusedVariables false
set_option linter.unusedSimpArgs false
set_option maxRecDepth 20000
set_option maxHeartbeats 1000000 in
theorem full_c (n : Int) (hn : I64 n) (w : World) :
    Calls Try.prog 75 #[.int .i64 n] w fun e w' => e = .returned (.agg #[Value.int IntKind.u8 (n / 72057594037927936 % 256), Value.int IntKind.u8 (n / 281474976710656 % 256),
              Value.int IntKind.u8 (n / 1099511627776 % 256), Value.int IntKind.u8 (n / 4294967296 % 256),
              Value.int IntKind.u8 (n / 16777216 % 256), Value.int IntKind.u8 (n / 65536 % 256),
              Value.int IntKind.u8 (n / 256 % 256), Value.int IntKind.u8 (n % 256)]) ∧ Gr w w' := by
  go_enter Try.func75, Try.ntmps75
  go_wp2_with fail
  go_rounds 9
  refine bodyPost_ret (v := .agg #[Value.int IntKind.u8 (n / 72057594037927936 % 256), Value.int IntKind.u8 (n / 281474976710656 % 256),
              Value.int IntKind.u8 (n / 1099511627776 % 256), Value.int IntKind.u8 (n / 4294967296 % 256),
              Value.int IntKind.u8 (n / 16777216 % 256), Value.int IntKind.u8 (n / 65536 % 256),
              Value.int IntKind.u8 (n / 256 % 256), Value.int IntKind.u8 (n % 256)]) (by simp [results, Try.results75, go_sem]) rfl ⟨rfl, Gr.of (by go_grown)⟩
set_option maxHeartbeats 1000000 in
theorem sized_c (k : Int) (hk : I64 k) (w : World) :
    Calls Try.prog 90 #[.int .i64 k] w fun e w' => e = .returned (.bool (decide (1 ≤ k ∧ k ≤ 8))) ∧ w = w' := by
  by_cases h1 : 1 ≤ k <;> by_cases h2 : k ≤ 8
  all_goals
    go_enter Try.func90, Try.ntmps90
    go_wp2
    go_ret
    exact ⟨by simp [h1, h2], rfl⟩
theorem ret_b {a b : Bool} (h : a = b) : Ending.returned (.bool a) = .returned (.bool b) := by rw [h]
theorem b_of {a : Bool} {p : Prop} [Decidable p] (h : a = true ↔ p) : a = decide p := by
  cases a <;> simp_all
set_option maxHeartbeats 1000000 in
theorem fits_c (n k : Int) (hn : I64 n) (hk : I64 k) (w : World) :
    Calls Try.prog 74 #[.int .i64 n, .int .i64 k] w fun e w' => e = .returned (.bool (fitsB n k)) ∧ w = w' := by
  unfold I64 at hn hk
  by_cases h : 1 ≤ k ∧ k ≤ 8
  · have hd : decide (1 ≤ k ∧ k ≤ 8) = true := by simpa using h
    have hk8 : k = 1 ∨ k = 2 ∨ k = 3 ∨ k = 4 ∨ k = 5 ∨ k = 6 ∨ k = 7 ∨ k = 8 := by omega
    rcases hk8 with rfl | rfl | rfl | rfl | rfl | rfl | rfl | rfl
    all_goals
      go_enter Try.func74, Try.ntmps74
      go_wp2_with fail
      refine (sized_c _ hk _).mono ?_
      rintro e u ⟨rfl, rfl⟩
      go_wp2
      go_ret
      refine ⟨ret_b (b_of ?_), rfl⟩
      simp
      omega
  · have hd : decide (1 ≤ k ∧ k ≤ 8) = false := by simpa using h
    have hf : fitsB n k = false := by simp [fitsB, h]
    go_enter Try.func74, Try.ntmps74
    go_wp2_with fail
    refine (sized_c k hk _).mono ?_
    rintro e u ⟨rfl, rfl⟩
    go_wp2
    go_ret
    exact ⟨ret_b hf.symm, rfl⟩
end Go.Proofs.Ytckmciafonnohaa
/- Contracts of Put and PutCoord, and of the document's answers to them. -/
namespace Go.Proofs.Ytckmciafonnohaa
open Go.RowKit OctPlain
set_option linter.unusedVariables false
set_option linter.unusedSimpArgs false
set_option maxRecDepth 20000
theorem conv8 (u : World) (n : Int) (k : Nat) (hn : 0 ≤ n) (hk : 1 ≤ k ∧ k ≤ 8) :
    (convert 72 9 (.slice (some ⟨u.heap.size, 8 - k, none⟩) k k)).run Try.prog (u.alloc (.cells #[Value.int IntKind.u8 (n / 72057594037927936 % 256), Value.int IntKind.u8 (n / 281474976710656 % 256),
              Value.int IntKind.u8 (n / 1099511627776 % 256), Value.int IntKind.u8 (n / 4294967296 % 256),
              Value.int IntKind.u8 (n / 16777216 % 256), Value.int IntKind.u8 (n / 65536 % 256),
              Value.int IntKind.u8 (n / 256 % 256), Value.int IntKind.u8 (n % 256)] 112)) = .ok (.string (bs (beL k n.toNat))) (u.alloc (.cells #[Value.int IntKind.u8 (n / 72057594037927936 % 256), Value.int IntKind.u8 (n / 281474976710656 % 256),
              Value.int IntKind.u8 (n / 1099511627776 % 256), Value.int IntKind.u8 (n / 4294967296 % 256),
              Value.int IntKind.u8 (n / 16777216 % 256), Value.int IntKind.u8 (n / 65536 % 256),
              Value.int IntKind.u8 (n / 256 % 256), Value.int IntKind.u8 (n % 256)] 112)) := by
  obtain ⟨m, rfl⟩ : ∃ m : Nat, n = m := ⟨n.toNat, by omega⟩
  refine conv_list _ _ _ _ (beL_length k m) ?_
  intro j x hx
  have hj : j < k := by
    have := (List.getElem?_eq_some_iff.1 hx).1
    rw [beL_length] at this; exact this
  have ea : Addr.add ⟨u.heap.size, 8 - k, none⟩ j = ⟨u.heap.size, 8 - k + j, none⟩ := by simp [Addr.add]
  rw [ea, World.cell?_alloc_mark]
  have hk8 : k = 1 ∨ k = 2 ∨ k = 3 ∨ k = 4 ∨ k = 5 ∨ k = 6 ∨ k = 7 ∨ k = 8 := by omega
  rcases hk8 with rfl | rfl | rfl | rfl | rfl | rfl | rfl | rfl
  all_goals
    have hj8 : j = 0 ∨ j = 1 ∨ j = 2 ∨ j = 3 ∨ j = 4 ∨ j = 5 ∨ j = 6 ∨ j = 7 := by omega
    rcases hj8 with rfl | rfl | rfl | rfl | rfl | rfl | rfl | rfl <;> first | (exfalso; omega) | (simp [beL] at hx; subst hx; simp; done) | (simp [beL] at hx; subst hx; simp; omega)

def b1 (b : UInt8) : ByteArray := bs [b]
theorem conv1 (u : World) (x : Int) (h0 : 0 ≤ x) (h1 : x < 256) :
    (convert 72 9 (.slice (some ⟨u.heap.size, 0, none⟩) 1 1)).run Try.prog (u.alloc (.cells #[Value.int IntKind.u8 x] 5)) = .ok (.string (bs [UInt8.ofNat x.toNat])) (u.alloc (.cells #[Value.int IntKind.u8 x] 5)) := by
  refine conv_list _ _ _ _ rfl ?_
  intro j y hy
  obtain rfl : j = 0 := by
    have := (List.getElem?_eq_some_iff.1 hy).1
    simpa using this
  simp at hy
  subst hy
  show World.cell? _ ⟨u.heap.size, 0 + 0, none⟩ = _
  rw [World.cell?_alloc_mark]
  simp
  omega

set_option maxHeartbeats 1000000 in
theorem put_c (n k : Int) (hn : I64 n) (hk : I64 k) (w : World) :
    Calls Try.prog 64 #[.int .i64 n, .int .i64 k] w fun e w' => e = .returned (.tuple #[.string (putS n k), .bool (fitsB n k)]) ∧ Gr w w' := by
  cases hf : fitsB n k
  · have hp := put_no hf
    go_enter Try.func64, Try.ntmps64
    go_wp2_with fail
    refine (fits_c n k hn hk _).mono ?_
    rintro e u ⟨rfl, rfl⟩
    go_wp2
    go_ret2
    exact ⟨ret_sb hp.symm rfl, Gr.refl _⟩
  · have hf' := hf
    simp only [fitsB, decide_eq_true_eq] at hf'
    obtain ⟨hk8, hn0, _⟩ := hf'
    have hp : putS n k = bs (beL k.toNat n.toNat) := by simp [putS, hf]
    have hm : k = 1 ∨ k = 2 ∨ k = 3 ∨ k = 4 ∨ k = 5 ∨ k = 6 ∨ k = 7 ∨ k = 8 := by omega
    rcases hm with rfl | rfl | rfl | rfl | rfl | rfl | rfl | rfl
    case' inl => have hc := fun u => conv8 u n 1 hn0 (by omega)
    case' inr.inl => have hc := fun u => conv8 u n 2 hn0 (by omega)
    case' inr.inr.inl => have hc := fun u => conv8 u n 3 hn0 (by omega)
    case' inr.inr.inr.inl => have hc := fun u => conv8 u n 4 hn0 (by omega)
    case' inr.inr.inr.inr.inl => have hc := fun u => conv8 u n 5 hn0 (by omega)
    case' inr.inr.inr.inr.inr.inl => have hc := fun u => conv8 u n 6 hn0 (by omega)
    case' inr.inr.inr.inr.inr.inr.inl => have hc := fun u => conv8 u n 7 hn0 (by omega)
    case' inr.inr.inr.inr.inr.inr.inr => have hc := fun u => conv8 u n 8 hn0 (by omega)
    all_goals
      go_enter Try.func64, Try.ntmps64
      go_wp2_with fail
      refine (fits_c n _ hn hk _).mono ?_
      rintro e u ⟨rfl, rfl⟩
      go_wp2_with fail
      refine (full_c n hn _).mono ?_
      rintro e u ⟨rfl, g⟩
      go_wp2
      go_ret2
      exact ⟨ret_sb hp.symm rfl, g.trans (Gr.of (by go_grown))⟩
end Go.Proofs.Ytckmciafonnohaa
