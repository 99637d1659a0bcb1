/- In one text: StB, StC, St. -/
import Derived.Test.YtignfbdgpgidpaaGreatDoorK35
import Derived.Deep.RegionHeld3
/- The program's layer 21: Next, outputs, Files. -/
namespace Go.Proofs.YtignfbdgpgidpaaGreatDoor
open Go.RowKit FsPlain MnPlain RnPlain StPlain
set_option linter.unusedVariables false
set_option linter.unusedSimpArgs false
set_option maxRecDepth 20000
theorem lies_new1 (w : World) (x : Fl) : LiesFl (w.alloc (.cells #[.string x.name, .int .i64 x.size, .int .i64 x.count, .int .u32 x.sum] 48)) (.slice (some ⟨w.heap.size, 0, none⟩) 1 1) [x] := by
  refine ⟨_, 1, rfl, Nat.le_refl _, .inr ⟨w.heap.size, 0, rfl, by simp, fun j y hj => ?_⟩⟩
  have hb := heap_alloc_new w (.cells #[.string x.name, .int .i64 x.size, .int .i64 x.count, .int .u32 x.sum] 48)
  match j, hj with
  | 0, hj =>
    obtain rfl : x = y := by simpa using hj
    exact ⟨by rw [cells_at hb]; rfl, by rw [cells_at hb]; rfl, by rw [cells_at hb]; rfl, by rw [cells_at hb]; rfl⟩
  | j + 1, hj => simp at hj
theorem lies_new2 (w : World) (x z : Fl) : LiesFl (w.alloc (.cells #[.string x.name, .int .i64 x.size, .int .i64 x.count, .int .u32 x.sum, .string z.name, .int .i64 z.size, .int .i64 z.count, .int .u32 z.sum] 48)) (.slice (some ⟨w.heap.size, 0, none⟩) 2 2) [x, z] := by
  refine ⟨_, 2, rfl, Nat.le_refl _, .inr ⟨w.heap.size, 0, rfl, by simp, fun j y hj => ?_⟩⟩
  have hb := heap_alloc_new w (.cells #[.string x.name, .int .i64 x.size, .int .i64 x.count, .int .u32 x.sum, .string z.name, .int .i64 z.size, .int .i64 z.count, .int .u32 z.sum] 48)
  match j, hj with
  | 0, hj =>
    obtain rfl : x = y := by simpa using hj
    exact ⟨by rw [cells_at hb]; rfl, by rw [cells_at hb]; rfl, by rw [cells_at hb]; rfl, by rw [cells_at hb]; rfl⟩
  | 1, hj =>
    obtain rfl : z = y := by simpa using hj
    exact ⟨by rw [cells_at hb]; rfl, by rw [cells_at hb]; rfl, by rw [cells_at hb]; rfl, by rw [cells_at hb]; rfl⟩
  | j + 2, hj => simp at hj
theorem outputs21_c (a b : ByteArray) (w : World) : Calls Tryz.prog 151 #[.string a, .string b] w fun e w' => ∃ o c, e = .returned (.slice o 2 c) ∧ LiesFl w' (.slice o 2 c) [⟨a, 8, 0, 0⟩, ⟨b, 17, 0, 0⟩] ∧ Gr w w' := by
  go_enter Tryz.func151, Tryz.ntmps151
  go_wp2_with fail
  go_ret
  exact ⟨_, _, rfl, lies_new2 w ⟨a, 8, 0, 0⟩ ⟨b, 17, 0, 0⟩, grst w _⟩
end Go.Proofs.YtignfbdgpgidpaaGreatDoor
/- The program's layer 21: Files; slices.EqualFunc with a closure. -/
namespace Go.Proofs.YtignfbdgpgidpaaGreatDoor
open Go.RowKit FsPlain MnPlain RnPlain StPlain
set_option linter.unusedVariables false
set_option linter.unusedSimpArgs false
set_option maxRecDepth 20000
theorem lies_new1a {w : World} {o : Obj} {T : TypeId} {c : Array Value} (h : o = .cells c T (0, 0)) (x : Fl) : LiesFl ((w.alloc o).alloc (.cells #[.string x.name, .int .i64 x.size, .int .i64 x.count, .int .u32 x.sum] 48)) (.slice (some ⟨w.heap.size + 1, 0, none⟩) 1 1) [x] := by
  have h := lies_new1 (w.alloc o) x
  rwa [show (w.alloc o).heap.size = w.heap.size + 1 from by simp] at h
set_option maxHeartbeats 1000000 in
theorem files21_c (s p : Int) (hs : I64 s) (hp : I64 p) (w : World) (hT : Tab w) : Calls Tryz.prog 122 #[.agg #[.int .i64 s, .int .i64 p]] w fun e w' => ∃ a c, e = .returned (.slice a (filesP s p).length c) ∧ LiesFl w' (.slice a (filesP s p).length c) (filesP s p) ∧ Gr w w' := by
  have g1 := grst w (.cells #[.int .i64 s, .int .i64 p] 162)
  have HG := Lib.hid g1
  obtain ⟨L, hL⟩ : ∃ L, filesP s p = L := ⟨_, rfl⟩
  rw [hL]
  unfold filesP at hL
  by_cases h1 : 0 ≤ p ∧ p ≤ 1000
  · have W1 := Lib.hid (fun v => within21_c p 0 1000 (decide_eq_true h1) v)
    rw [if_neg (by omega)] at hL
    have GC := Lib.hid (fun u (g : Gr (w.alloc (.cells #[.int .i64 s, .int .i64 p] 162)) u) => graph21_c p h1.2 hp u (hT.gr (HG.out.trans g)))
    have GZ := Lib.hid (fun u (g : Gr (w.alloc (.cells #[.int .i64 s, .int .i64 p] 162)) u) => graph21_c 0 (by decide) (by unfold I64; omega) u (hT.gr (HG.out.trans g)))
    have OC := Lib.hid (fun a b u => outputs21_c a b u)
    obtain ⟨gp, hgp⟩ : ∃ gp, gnB p = gp := ⟨_, rfl⟩
    obtain ⟨g0, hg0⟩ : ∃ g0, gnB 0 = g0 := ⟨_, rfl⟩
    rw [hgp] at GC hL
    rw [hg0] at GZ hL
    clear hgp hg0 h1 hT hs hp g1
    by_cases c1 : s = 1
    · subst c1
      simp only [if_true] at hL
      subst hL
      clear GC GZ OC
      go_enter Tryz.func122, Tryz.ntmps122
      go_wp2_with fail
      refine (W1.out _).mono ?_; rintro e u ⟨rfl, rfl⟩
      go_wp2_with fail
      go_ret
      exact ⟨_, _, rfl, lies_new1a rfl ⟨⟨#[99, 101, 108, 108, 115]⟩, 12, 0, 0⟩, HG.out.trans (grst _ _)⟩
    by_cases c2 : s = 2
    · subst c2
      simp only [if_neg c1, if_true] at hL
      subst hL
      clear GC GZ OC c1
      go_enter Tryz.func122, Tryz.ntmps122
      go_wp2_with fail
      refine (W1.out _).mono ?_; rintro e u ⟨rfl, rfl⟩
      go_wp2_with fail
      go_ret
      exact ⟨_, _, rfl, lies_new1a rfl ⟨⟨#[112, 97, 105, 114, 115, 46, 111, 117, 116]⟩, 8, 0, 0⟩, HG.out.trans (grst _ _)⟩
    by_cases c3 : s = 3
    · subst c3
      simp only [if_neg c1, if_neg c2, if_true] at hL
      subst hL
      clear GC c1 c2
      go_enter Tryz.func122, Tryz.ntmps122
      go_wp2_with fail
      refine (W1.out _).mono ?_; rintro e u ⟨rfl, rfl⟩
      go_wp2_with fail
      refine (GZ.out _ (Gr.refl _)).mono ?_; rintro e u2 ⟨rfl, g2⟩
      go_wp2_with fail
      refine (OC.out _ _ _).mono ?_; rintro e u3 ⟨a, c, rfl, hl, g3⟩
      go_wp2_with fail
      go_ret
      exact ⟨_, _, rfl, hl, (HG.out.trans g2).trans g3⟩
    by_cases c45 : s = 4 ∨ s = 5
    · simp only [if_neg c1, if_neg c2, if_neg c3, if_pos c45] at hL
      subst hL
      clear GZ
      rcases c45 with rfl | rfl
      all_goals
        clear c1 c2 c3
        go_enter Tryz.func122, Tryz.ntmps122
        go_wp2_with fail
        refine (W1.out _).mono ?_; rintro e u ⟨rfl, rfl⟩
        go_wp2_with fail
        refine (GC.out _ (Gr.refl _)).mono ?_; rintro e u2 ⟨rfl, g2⟩
        go_wp2_with fail
        refine (OC.out _ _ _).mono ?_; rintro e u3 ⟨a, c, rfl, hl, g3⟩
        go_wp2_with fail
        go_ret
        exact ⟨_, _, rfl, hl, (HG.out.trans g2).trans g3⟩
    by_cases c6 : s = 6
    · subst c6
      simp only [if_neg c1, if_neg c2, if_neg c3, if_neg c45, if_true] at hL
      subst hL
      clear GC GZ c1 c2 c3 c45
      go_enter Tryz.func122, Tryz.ntmps122
      go_wp2_with fail
      refine (W1.out _).mono ?_; rintro e u ⟨rfl, rfl⟩
      go_wp2_with fail
      refine (OC.out _ _ _).mono ?_; rintro e u3 ⟨a, c, rfl, hl, g3⟩
      go_wp2_with fail
      go_ret
      exact ⟨_, _, rfl, hl, HG.out.trans g3⟩
    by_cases c7 : s = 7
    · subst c7
      simp only [if_neg c1, if_neg c2, if_neg c3, if_neg c45, if_neg c6, if_true] at hL
      subst hL
      clear GC GZ c1 c2 c3 c45 c6
      go_enter Tryz.func122, Tryz.ntmps122
      go_wp2_with fail
      refine (W1.out _).mono ?_; rintro e u ⟨rfl, rfl⟩
      go_wp2_with fail
      refine (OC.out _ _ _).mono ?_; rintro e u3 ⟨a, c, rfl, hl, g3⟩
      go_wp2_with fail
      go_ret
      exact ⟨_, _, rfl, hl, HG.out.trans g3⟩
    · simp only [if_neg c1, if_neg c2, if_neg c3, if_neg c45, if_neg c6, if_neg c7] at hL
      subst hL
      have c4 : ¬ s = 4 := fun h => c45 (.inl h)
      have c5 : ¬ s = 5 := fun h => c45 (.inr h)
      clear GC GZ OC c45
      go_enter Tryz.func122, Tryz.ntmps122
      go_wp2_with fail
      refine (W1.out _).mono ?_; rintro e u ⟨rfl, rfl⟩
      go_wp2_with fail
      go_ret
      exact ⟨none, 0, rfl, ⟨none, 0, rfl, Nat.le_refl _, .inl rfl⟩, HG.out⟩
  · have W1 := Lib.hid (fun v => within21_c p 0 1000 (decide_eq_false h1) v)
    rw [if_pos (by omega)] at hL
    subst hL
    clear h1
    go_enter Tryz.func122, Tryz.ntmps122
    go_wp2_with fail
    refine (W1.out _).mono ?_; rintro e u ⟨rfl, rfl⟩
    go_wp2_with fail
    go_ret
    exact ⟨none, 0, rfl, ⟨none, 0, rfl, Nat.le_refl _, .inl rfl⟩, HG.out⟩
def ns1 (x y : Fl) : Bool := decide (x.name = y.name ∧ x.size = y.size)
set_option maxHeartbeats 1000000 in
theorem fits1_c (x y : Fl) (w : World) : Calls Tryz.prog 123 #[.agg #[.string x.name, .int .i64 x.size, .int .i64 x.count, .int .u32 x.sum], .agg #[.string y.name, .int .i64 y.size, .int .i64 y.count, .int .u32 y.sum]] w fun e w' => e = .returned (.bool (ns1 x y)) ∧ Gr w w' := by
  have HG := Lib.hid ((grst w (.cells #[.string x.name, .int .i64 x.size, .int .i64 x.count, .int .u32 x.sum] 48)).trans (grst _ (.cells #[.string y.name, .int .i64 y.size, .int .i64 y.count, .int .u32 y.sum] 48)))
  obtain ⟨r, hr⟩ : ∃ r, ns1 x y = r := ⟨_, rfl⟩
  rw [hr]
  unfold ns1 at hr
  by_cases e : x.name = y.name
  · have e2 : (x.name.toList == y.name.toList) = true := by rw [e]; simp
    obtain ⟨b, hb⟩ : ∃ b, ((x.size : Int) == y.size) = b := ⟨_, rfl⟩
    obtain rfl : r = b := by
      rw [← hr, ← hb, Bool.eq_iff_iff, decide_eq_true_iff, beq_iff_eq]
      exact ⟨fun h => h.2, fun h => ⟨e, h⟩⟩
    clear hr e
    go_enter Tryz.func123, Tryz.ntmps123
    go_wp2_with fail
    go_ret
    exact ⟨rfl, HG.out⟩
  · have e2 : (x.name.toList == y.name.toList) = false := by
      rw [beq_eq_false_iff_ne]
      intro k
      exact e (ByteArray.ext (Array.toList_inj.1 (by rw [← Lib.toList_data, ← Lib.toList_data, k])))
    obtain rfl : r = false := by rw [← hr]; exact decide_eq_false (fun h => e h.1)
    clear hr e
    go_enter Tryz.func123, Tryz.ntmps123
    go_wp2_with fail
    go_ret
    exact ⟨rfl, HG.out⟩
theorem nsEq_step {l m : List Fl} {i : Nat} (h1 : i < l.length) (h2 : i < m.length) : nsEq (l.drop i) (m.drop i) = (ns1 l[i] m[i] && nsEq (l.drop (i + 1)) (m.drop (i + 1))) := by
  rw [List.drop_eq_getElem_cons h1, List.drop_eq_getElem_cons h2]
  rfl
theorem nsEq_len : ∀ {l m : List Fl}, ¬ l.length = m.length → nsEq l m = false
  | [], [], h => absurd rfl h
  | [], _ :: _, _ => rfl
  | _ :: _, [], _ => rfl
  | x :: l, y :: m, h => by
    show (_ && nsEq l m) = false
    rw [nsEq_len (l := l) (m := m) (by simpa using h), Bool.and_false]
def EqAt (l m : List Fl) (w : World) (v : Value) (wr : World) : Prop := ∃ i : Nat, i ≤ l.length ∧ v = .int .i64 (i : Int) ∧ nsEq l m = nsEq (l.drop i) (m.drop i) ∧ Gr w wr
set_option maxHeartbeats 4000000 in
theorem eqf21_c (a b : Option Addr) (n1 n2 c1 c2 : Nat) (l m : List Fl) (w : World) (h1 : LiesFl w (.slice a n1 c1) l) (h2 : LiesFl w (.slice b n2 c2) m) (hl : l.length ≤ maxLen) (hm : m.length ≤ maxLen) :
    Calls Tryz.prog 121 #[.slice a n1 c1, .slice b n2 c2, .func (.func 123) #[] #[]] w fun e w' => e = .returned (.bool (nsEq l m)) ∧ Gr w w' := by
  have hn1 := lies_len h1
  have hn2 := lies_len h2
  subst hn1 hn2
  obtain ⟨r, hr⟩ : ∃ r, nsEq l m = r := ⟨_, rfl⟩
  rw [hr]
  unfold maxLen at hl hm
  have H1 := Lib.hid h1
  have H2 := Lib.hid h2
  clear h1 h2
  by_cases e3 : l.length = m.length
  · have e3b : ((l.length : Int) != (m.length : Int)) = false := by simp [e3]
    have HR := Lib.hid hr
    have HE := Lib.hid e3
    clear hr e3
    go_enter Tryz.func121, Tryz.ntmps121
    go_wp2_with fail
    go_loopw [7, 17] (fun _ v wr => EqAt l m w v wr) (fun _ v _ => l.length - (intOf v).toNat)
    case atStart => exact ⟨0, Nat.zero_le _, rfl, by rw [List.drop_zero, List.drop_zero], Gr.refl _⟩
    case round =>
      clear e3b
      obtain ⟨i, hi1, rfl, hst, g1⟩ := hrel
      by_cases hlt : i < l.length
      · have hlt2 : i < m.length := by rw [← HE.out]; exact hlt
        obtain ⟨_, hc, ab, ao, rfl, hb, ⟨k0, k1, k2, k3⟩⟩ := fl_get (H1.out.gr g1) hlt
        obtain ⟨_, hc2, bb, bo, rfl, hb2, ⟨j0, j1, j2, j3⟩⟩ := fl_get (H2.out.gr g1) hlt2
        have q1 : (i : Int) < (l.length : Int) := by omega
        have q2 : (i : Int) < (m.length : Int) := by omega
        have hstep := nsEq_step hlt hlt2
        have FC := Lib.hid (fun u => fits1_c l[i] m[i] u)
        have G1 := Lib.hid g1
        obtain ⟨x, hx⟩ : ∃ x, l[i] = x := ⟨_, rfl⟩
        obtain ⟨y, hy⟩ : ∃ y, m[i] = y := ⟨_, rfl⟩
        rw [hx] at k0 k1 k2 k3 hstep FC
        rw [hy] at j0 j1 j2 j3 hstep FC
        clear hx hy g1
        have GA := Lib.hid ((grst wr (.cells #[.string x.name, .int .i64 x.size, .int .i64 x.count, .int .u32 x.sum] 48)).trans (grst _ (.cells #[.string y.name, .int .i64 y.size, .int .i64 y.count, .int .u32 y.sum] 48)))
        cases he : ns1 x y
        · have er : r = false := by rw [← HR.out, hst, hstep, he, Bool.false_and]
          subst er
          rw [he] at FC
          clear hst hstep he
          go_wp2_with fail
          refine (FC.out _).mono ?_; rintro e u ⟨rfl, g⟩
          go_wp2_with fail
          go_ret
          exact ⟨rfl, (G1.out.trans GA.out).trans g⟩
        · have NX := Lib.hid (show nsEq l m = nsEq (l.drop (i + 1)) (m.drop (i + 1)) by rw [hst, hstep, he, Bool.true_and])
          rw [he] at FC
          clear hst hstep he
          go_wp2_with fail
          refine (FC.out _).mono ?_; rintro e u ⟨rfl, g⟩
          go_wp2_with fail
          go_roundw
          case rel => exact ⟨i + 1, by omega, by rw [show ((i + 1 : Nat) : Int) = (i : Int) + 1 by omega], NX.out, (G1.out.trans GA.out).trans g⟩
          case measure => simp [intOf]; omega
      · have hie : i = l.length := by omega
        have er : r = true := by
          rw [← HR.out, hst, hie, List.drop_length, HE.out, List.drop_length]
          rfl
        subst er
        have q1 : ¬ (i : Int) < (l.length : Int) := by omega
        clear hst
        go_wp2_with fail
        go_ret
        exact ⟨rfl, g1⟩
  · have er : r = false := by rw [← hr, nsEq_len e3]
    have e3b : ((l.length : Int) != (m.length : Int)) = true := by
      rw [bne_iff_ne]
      omega
    subst er
    clear hr e3
    go_enter Tryz.func121, Tryz.ntmps121
    go_wp2_with fail
    go_ret
    exact ⟨rfl, Gr.refl _⟩
end Go.Proofs.YtignfbdgpgidpaaGreatDoor
/- The program's layer 21: Fits. -/
namespace Go.Proofs.YtignfbdgpgidpaaGreatDoor
open Go.RowKit FsPlain MnPlain RnPlain StPlain
set_option linter.unusedVariables false
set_option linter.unusedSimpArgs false
set_option maxRecDepth 20000
def FtV (w : World) (s p : Int) (v : Value) : World := (w.alloc (.cells #[.int .i64 s, .int .i64 p, v] 27)).alloc (.cells #[.int .i64 s, .int .i64 p] 162)
theorem ftv_at {w u : World} {s p : Int} {v : Value} (g : Gr (FtV w s p v) u) : u.heap[w.heap.size]? = some (.cells #[.int .i64 s, .int .i64 p, v] 27 (0, 0)) ∧ u.heap[w.heap.size + 1]? = some (.cells #[.int .i64 s, .int .i64 p] 162 (0, 0)) ∧ Gr w u := by
  have h1 : (w.alloc (.cells #[.int .i64 s, .int .i64 p, v] 27)).heap.size = w.heap.size + 1 := by simp
  have hz : (FtV w s p v).heap.size = w.heap.size + 2 := by simp [FtV]
  refine ⟨?_, ?_, (grst w _).trans ((grst _ _).trans g)⟩
  · rw [Below.block g _ (by omega)]
    unfold FtV
    rw [Below.block (grst _ _) _ (by omega)]
    exact heap_alloc_new w _
  · rw [Below.block g _ (by omega), ← h1]
    exact heap_alloc_new _ _
theorem grdst {a b : World} (g : Gr a b) : Gr a b.drew := g.drew
set_option maxHeartbeats 2000000 in
theorem fits21_c (m : Mn) (r : Int) {a : Option Addr} {n c : Nat} (w : World) (h : LiesFl w (.slice a n c) m.files) (hl : m.files.length ≤ maxLen) (hK : ∀ f ∈ m.files, flK f) (hs : I64 m.stage) (hp : I64 m.pass) (hr : I64 r) (hT : Tab w) : Calls Tryz.prog 98 #[.agg #[.int .i64 m.stage, .int .i64 m.pass, .slice a n c], .int .i64 r] w fun e w' => e = .returned (.bool (fitP m r)) ∧ Gr w w' := by
  obtain ⟨s, p, l⟩ := m
  simp only at h hl hK hs hp
  obtain ⟨V, hV⟩ : ∃ V, V = FtV w s p (.slice a n c) := ⟨_, rfl⟩
  have HV := Lib.hid (show (w.alloc (.cells #[.int .i64 s, .int .i64 p, .slice a n c] 27)).alloc (.cells #[.int .i64 s, .int .i64 p] 162) = V from by rw [hV]; rfl)
  have VC := Lib.hid (fun u (g : Gr V u) => ftv_at (w := w) (s := s) (p := p) (v := .slice a n c) (by rw [← hV]; exact g))
  have MR := Lib.hid (mright_c s p a n c l V (h.gr (VC.out V (Gr.refl _)).2.2) hl hK)
  have RC := Lib.hid (fun u => right21_c s p r hs hp hr u)
  have FC := Lib.hid (fun u (g : Gr V u) => files21_c s p hs hp u (hT.gr (VC.out u g).2.2))
  have EC := Lib.hid (fun u (g : Gr V u) (b : Option Addr) (d : Nat) (k : LiesFl u (.slice b (filesP s p).length d) (filesP s p)) => eqf21_c a b n (filesP s p).length c d l (filesP s p) u (h.gr (VC.out u g).2.2) k hl (by have := files_few s p; unfold maxLen; omega))
  have SH := Lib.hid (fun u (g : Gr V u) => (show Gr V u ∧ u.cell? ⟨w.heap.size, 2, none⟩ = some (.slice a n c) ∧ u.cell? ⟨w.heap.size + 1, 0, none⟩ = some (.int .i64 s) ∧ u.cell? ⟨w.heap.size + 1, 1, none⟩ = some (.int .i64 p) from ⟨g, by rw [cells_at (VC.out u g).1]; rfl, by rw [cells_at (VC.out u g).2.1]; rfl, by rw [cells_at (VC.out u g).2.1]; rfl⟩))
  obtain ⟨R, hR⟩ : ∃ R, fitP ⟨s, p, l⟩ r = R := ⟨_, rfl⟩
  rw [hR]
  unfold fitP at hR
  simp only at hR
  generalize filesP s p = F at FC EC hR
  cases d1 : mnB ⟨s, p, l⟩
  · rw [d1] at MR hR
    obtain rfl : R = false := by rw [← hR]; rfl
    clear hR hV h hl hK hT hs hp hr d1
    go_enter Tryz.func98, Tryz.ntmps98
    go_wp2_with fail
    rw [HV.out]
    refine MR.out.mono ?_; rintro e u ⟨rfl, g⟩
    go_wp2_with fail
    go_ret
    exact ⟨rfl, (VC.out u g).2.2⟩
  · have hs0 : s ≠ 0 := by
      intro e
      unfold mnB at d1
      rw [decide_eq_false (by rintro ⟨h1, _⟩; simp only at h1; omega), Bool.false_and] at d1
      cases d1
    rw [d1, Bool.true_and, decide_eq_true hs0, Bool.true_and] at hR
    rw [d1] at MR
    cases d2 : rightP s p r
    · rw [d2] at RC hR
      obtain rfl : R = false := by rw [← hR]; rfl
      clear hR hV h hl hK hT hs hp hr d1 d2 hs0
      go_enter Tryz.func98, Tryz.ntmps98
      go_wp2_with fail
      rw [HV.out]
      refine MR.out.mono ?_; rintro e u ⟨rfl, g⟩
      obtain ⟨_, _, y0, y1⟩ := SH.out u g
      go_wp2_with fail
      refine (RC.out u).mono ?_; rintro e u2 ⟨rfl, g2⟩
      go_wp2_with fail
      go_ret
      exact ⟨rfl, (VC.out u2 (g.trans g2)).2.2⟩
    · rw [d2] at RC
      rw [d2, Bool.true_and] at hR
      have HR := Lib.hid hR
      clear hR hV h hl hK hT hs hp hr d1 d2 hs0
      go_enter Tryz.func98, Tryz.ntmps98
      go_wp2_with fail
      rw [HV.out]
      refine MR.out.mono ?_; rintro e u ⟨rfl, g⟩
      obtain ⟨_, _, y0, y1⟩ := SH.out u g
      go_wp2_with fail
      refine (RC.out u).mono ?_; rintro e u2 ⟨rfl, g2⟩
      have gg := Gr.trans g g2
      clear g g2 y0 y1
      go_wp2_with fail
      go_region_held3 (fun u => Gr V u ∧ u.cell? ⟨w.heap.size, 2, none⟩ = some (.slice a n c) ∧ u.cell? ⟨w.heap.size + 1, 0, none⟩ = some (.int .i64 s) ∧ u.cell? ⟨w.heap.size + 1, 1, none⟩ = some (.int .i64 p))
        (first | exact SH.out _ (grdst (by assumption)) | exact SH.out _ (by assumption) | go_keep)
        ((first
          | (go_at_call 122; (with_reducible refine (FC.out _ (by first | exact grdst (by assumption) | assumption)).mono ?_); rintro e u3 ⟨b, d, rfl, hF, g3⟩; have q3 : Gr V u3 := by first | exact Gr.trans (grdst (by assumption)) g3 | exact Gr.trans (by assumption) g3)
          | (go_at_call 121; (with_reducible refine (EC.out _ (by assumption) _ _ (by assumption)).mono ?_); rintro e u4 ⟨rfl, g4⟩; have q4 : Gr V u4 := Gr.trans (by assumption) g4)))
      go_wp2_with fail
      go_ret
      rw [HR.out]
      exact ⟨rfl, (VC.out _ (by assumption)).2.2⟩
end Go.Proofs.YtignfbdgpgidpaaGreatDoor
