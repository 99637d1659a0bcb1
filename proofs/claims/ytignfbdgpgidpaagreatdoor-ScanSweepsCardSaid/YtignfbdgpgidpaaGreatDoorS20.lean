/- In one text: OctRput, MnRef5, DsRow. -/
import Derived.Test.YtignfbdgpgidpaaGreatDoorS19
import Derived.Lib.Hide
import Derived.Test.YtignfbdgpgidpaaGreatDoorS17
import Derived.Test.YtignfbdgpgidpaaGreatDoorS00
import Derived.Maps.AppendAt
/- Contracts of the document's Put, and of PutCoord on both sides. -/
namespace Go.Proofs.YtignfbdgpgidpaaGreatDoor
open Go.RowKit OctPlain
set_option linter.unusedVariables false
set_option linter.unusedSimpArgs false
set_option maxRecDepth 20000
def PutAt (n k : Int) (B : Nat) (w : World) (v s i : Value) (wr : World) : Prop :=
  ∃ j : Nat, (j : Int) ≤ k ∧ i = .int .i64 j ∧ v = .int .i64 (n / 256 ^ j) ∧ s = .string (bs (beL j n.toNat)) ∧ Below B w wr
set_option maxHeartbeats 1000000 in
theorem rput_c (n k : Int) (hn : I64 n) (hk : I64 k) (w : World) :
    Calls Tryz.prog 142 #[.int .i64 n, .int .i64 k] w fun e w' => e = .returned (.tuple #[.string (putS n k), .bool (fitsB n k)]) ∧ Gr w w' := by
  unfold I64 at hn hk
  by_cases h : (1 ≤ k ∧ k ≤ 8) ∧ 0 ≤ n
  · obtain ⟨hk8, hn0⟩ := h
    go_enter Tryz.func142, Tryz.ntmps142
    go_wp2_with fail
    go_loopw [0, 6, 7] (fun v s i wr => PutAt n k w.heap.size w v s i wr) (fun _ _ i _ => (k - intOf i).toNat)
    case atStart => exact ⟨0, by omega, by simp, by simp, by simp [beL, bs], Below.refl _ _⟩
    case round =>
      obtain ⟨j, hj, rfl, rfl, rfl, hb⟩ := hrel
      have hm0 : 0 ≤ n / 256 ^ j := Int.ediv_nonneg hn0 (Int.pow_nonneg (by omega))
      have hm1 : n / 256 ^ j ≤ n := Int.ediv_le_self _ hn0
      have hstep : n / 256 ^ (j + 1) = n / 256 ^ j / 256 := by rw [Int.pow_succ, Int.ediv_ediv_of_nonneg (Int.pow_nonneg (by omega))]
      by_cases hlt : (j : Int) < k
      · obtain ⟨m, hm⟩ : ∃ m, m = n / 256 ^ j := ⟨_, rfl⟩
        rw [← hm] at hm0 hm1 hstep ⊢
        have hc := fun u => conv1 u (m % 256) (by omega) (by omega)
        have s1 : (bs [UInt8.ofNat (m % 256).toNat]).size = 1 := bs_size _
        have s2 : (bs (beL j n.toNat)).size = j := by rw [bs_size, beL_length]
        have hnew : bs [UInt8.ofNat (m % 256).toNat] ++ bs (beL j n.toNat) = bs (beL (j + 1) n.toNat) := by
          rw [bs_app, beL_top, hm]
          rw [dig_cast n hn0]
          rfl
        have hnew' := Lib.hid hnew
        clear hm hnew
        go_wp2
        refine ⟨⟨j + 1, by omega, rfl, by rw [hstep], by rw [hnew'.out], Below.alloc hb hb.size _⟩, ?_⟩
        simp [intOf]; omega
      · obtain rfl : k = j := by omega
        have hfit : fitsB n j = decide (n / 256 ^ j = 0) := fits_at hk8 hn0
        by_cases hz : 0 < n / 256 ^ j
        · have hf : fitsB n j = false := by rw [hfit]; simp; omega
          have hp := put_no hf
          clear hfit
          go_wp2
          go_ret2
          first | exact ⟨rfl, Gr.of hb⟩ | exact ⟨ret_sb hp.symm hf.symm, Gr.of hb⟩
        · have hf : fitsB n j = true := by rw [hfit]; simp; omega
          have hp : putS n j = bs (beL j n.toNat) := by simp [putS, hf]
          clear hfit
          go_wp2
          go_ret2
          first | exact ⟨rfl, Gr.of hb⟩ | exact ⟨ret_sb hp.symm hf.symm, Gr.of hb⟩
  · have hf : fitsB n k = false := by
      simp only [fitsB, decide_eq_false_iff_not]
      intro hh; exact h ⟨hh.1, hh.2.1⟩
    have hp := put_no hf
    by_cases k1 : k < 1
    · go_enter Tryz.func142, Tryz.ntmps142
      go_wp2
      go_ret2
      first | exact ⟨rfl, Gr.refl _⟩ | exact ⟨ret_sb hp.symm hf.symm, Gr.refl _⟩
    · by_cases k2 : 8 < k
      · go_enter Tryz.func142, Tryz.ntmps142
        go_wp2
        go_ret2
        first | exact ⟨rfl, Gr.refl _⟩ | exact ⟨ret_sb hp.symm hf.symm, Gr.refl _⟩
      · have k3 : n < 0 := by omega
        go_enter Tryz.func142, Tryz.ntmps142
        go_wp2
        go_ret2
        first | exact ⟨rfl, Gr.refl _⟩ | exact ⟨ret_sb hp.symm hf.symm, Gr.refl _⟩
end Go.Proofs.YtignfbdgpgidpaaGreatDoor
/- The document's answers of layer 19: Put. -/
namespace Go.Proofs.YtignfbdgpgidpaaGreatDoor
open Go.RowKit FsPlain CrcPlain OctPlain MnPlain
set_option linter.unusedVariables false
set_option linter.unusedSimpArgs false
set_option maxRecDepth 20000
theorem rmust19_c (n k : Int) (hn : I64 n) (hk : I64 k) (w : World) :
    Calls Tryz.prog 107 #[.int .i64 n, .int .i64 k] w fun e w' => e = .returned (.string (putS n k)) ∧ Gr w w' := by
  go_enter Tryz.func107, Tryz.ntmps107
  go_wp2_with fail
  refine (rput_c n k hn hk _).mono ?_; rintro e u ⟨rfl, g⟩
  go_wp2_with fail
  go_ret
  exact ⟨rfl, g⟩
namespace MnPlain
def hdL (m : Mn) : List UInt8 := [77, 65, 78, 49] ++ (beL 2 m.stage.toNat ++ (beL 2 m.pass.toNat ++ beL 1 m.files.length))
theorem hd_all (m : Mn) : mnL m = hdL m ++ (m.files.map flL).flatten := by
  unfold mnL hdL
  simp only [List.append_assoc]
theorem hd_length (m : Mn) : (hdL m).length = 9 := by
  unfold hdL
  simp only [List.length_append, beL_length, List.length_cons, List.length_nil]
theorem put_be {n k : Nat} (hk : 1 ≤ k ∧ k ≤ 8) (hn : n < 256 ^ k) : putS (n : Int) (k : Int) = bs (beL k n) := by
  have : fitsB (n : Int) (k : Int) = true := by
    unfold fitsB
    rw [decide_eq_true_iff, Int.toNat_natCast]
    refine ⟨by omega, by omega, ?_⟩
    exact_mod_cast hn
  unfold putS
  rw [if_pos this, Int.toNat_natCast, Int.toNat_natCast]
theorem put_is {n : Int} {k : Nat} (hk : 1 ≤ k ∧ k ≤ 8) (h0 : 0 ≤ n) (hn : n.toNat < 256 ^ k) : putS n (k : Int) = bs (beL k n.toNat) := by
  have := put_be hk hn
  rwa [Int.toNat_of_nonneg h0] at this
end MnPlain
theorem rput19_no (m : Mn) {a : Option Addr} {n c : Nat} (w : World) (h : LiesFl w (.slice a n c) m.files) (hl : m.files.length ≤ maxLen) (hK : ∀ f ∈ m.files, flK f) (hs : I64 m.stage) (hp : I64 m.pass) (hm : mnB m = false) :
    Calls Tryz.prog 77 #[.agg #[.int .i64 m.stage, .int .i64 m.pass, .slice a n c]] w fun e w' => e = .returned (.tuple #[.string ⟨#[]⟩, .bool false]) ∧ Gr w w' := by
  obtain ⟨st, ps, l⟩ := m
  have RT := Lib.hid (fun u (g : Gr w u) => rmright_c st ps a n c l u (h.gr g) hl hK hs hp)
  rw [hm] at RT
  have gA := Gr.refl w
  clear h hl hK hs hp hm
  go_enter Tryz.func77, Tryz.ntmps77
  go_wp2_with fail
  refine (RT.out _ (gA.alloc (Nat.le_refl _) _)).mono ?_; rintro e u ⟨rfl, g⟩
  go_wp2_with fail
  go_ret2
  exact ⟨rfl, Gr.trans ((Gr.refl w).alloc (Nat.le_refl _) _) g⟩
def PtAt (m : Mn) (w1 : World) (vs vi : Value) (wr : World) : Prop := ∃ i : Nat, i ≤ m.files.length ∧ vi = .int .i64 (i : Int) ∧ vs = .string (bs (hdL m ++ ((m.files.take i).map flL).flatten)) ∧ Gr w1 wr
theorem flatl_le {l : List Fl} (h : ∀ f ∈ l, f.name.size ≤ 24) : ((l.map flL).flatten).length ≤ 38 * l.length := by
  induction l with
  | nil => simp
  | cons f t ih =>
    have h1 := h f (by simp)
    have h2 := ih fun g hg => h g (by simp [hg])
    simp only [List.map_cons, List.flatten_cons, List.length_append, List.length_cons, flL_length]
    omega
set_option maxHeartbeats 8000000 in
theorem rput19_yes (m : Mn) {a : Option Addr} {n c : Nat} (w : World) (h : LiesFl w (.slice a n c) m.files) (hK : ∀ f ∈ m.files, flK f) (hm : mnB m = true) :
    Calls Tryz.prog 77 #[.agg #[.int .i64 m.stage, .int .i64 m.pass, .slice a n c]] w fun e w' => e = .returned (.tuple #[.string (mnS m), .bool true]) ∧ Gr w w' := by
  have hn : n = m.files.length := by
    obtain ⟨a', c', e, hc, _⟩ := h
    simp only [Value.slice.injEq] at e
    exact e.2.1
  subst hn
  have hb := hm
  unfold mnB at hb
  simp only [Bool.and_eq_true, decide_eq_true_eq] at hb
  obtain ⟨⟨⟨a1, a2⟩, ⟨a3, a4⟩, a5⟩, hnew⟩ := hb
  have hfb := newB_all hnew
  have hf24 : ∀ f ∈ m.files, f.name.size ≤ 24 := fun f hf => by
    have := hfb f hf
    unfold flB rightB at this
    simp only [Bool.and_eq_true, decide_eq_true_eq] at this
    have e : f.name.data.toList.length = f.name.size := rfl
    omega
  obtain ⟨W, hW⟩ : ∃ W, W = w.alloc (.cells #[.int .i64 m.stage, .int .i64 m.pass, .slice a m.files.length c] 27) := ⟨_, rfl⟩
  have gW : Gr w W := by rw [hW]; exact (Gr.refl w).alloc (Nat.le_refl _) _
  have hz : W.heap.size = w.heap.size + 1 := by rw [hW]; simp
  have yA : W.heap[w.heap.size]? = some (.cells #[.int .i64 m.stage, .int .i64 m.pass, .slice a m.files.length c] 27 (0, 0)) := by rw [hW]; exact heap_alloc_new w _
  have S0 : ∀ u, Gr W u → Gr W u ∧ u.cell? ⟨w.heap.size, 0, none⟩ = some (.int .i64 m.stage) ∧ u.cell? ⟨w.heap.size, 1, none⟩ = some (.int .i64 m.pass) ∧ u.cell? ⟨w.heap.size, 2, none⟩ = some (.slice a m.files.length c) := fun u g => by
    have y := (g.block w.heap.size (by omega)).trans yA
    exact ⟨g, by rw [cells_at y]; rfl, by rw [cells_at y]; rfl, by rw [cells_at y]; rfl⟩
  have RT := Lib.hid (rmright_c m.stage m.pass a m.files.length c m.files W (h.gr gW) (by unfold maxLen; omega) hK (by unfold I64; omega) (by unfold I64; omega))
  rw [show mnB ⟨m.stage, m.pass, m.files⟩ = true from hm] at RT
  have MU := Lib.hid (fun (n k : Int) (x : ByteArray) (hn : I64 n) (hk : I64 k) (hx : putS n k = x) (u : World) (g : Gr W u) => (rmust19_c n k hn hk u).mono fun e w' hh => (⟨by rw [← hx]; exact hh.1, S0 w' (g.trans hh.2)⟩ : e = .returned (.string x) ∧ _))
  have P1 : putS m.stage 2 = _ := put_is (n := m.stage) (k := 2) (by decide) (by omega) (by omega)
  have P2 : putS m.pass 2 = _ := put_is (n := m.pass) (k := 2) (by decide) (by omega) (by omega)
  have P3 : putS (m.files.length : Int) 1 = _ := put_be (n := m.files.length) (k := 1) (by decide) (by omega)
  have M1 := Lib.hid (MU.out m.stage 2 _ (by unfold I64; omega) (by unfold I64; omega) P1)
  have M2 := Lib.hid (MU.out m.pass 2 _ (by unfold I64; omega) (by unfold I64; omega) P2)
  have M3 := Lib.hid (MU.out (m.files.length : Int) 1 _ (by unfold I64; omega) (by unfold I64; omega) P3)
  obtain ⟨x1, hx1⟩ : ∃ x, bs (beL 2 m.stage.toNat) = x := ⟨_, rfl⟩
  obtain ⟨x2, hx2⟩ : ∃ x, bs (beL 2 m.pass.toNat) = x := ⟨_, rfl⟩
  obtain ⟨x3, hx3⟩ : ∃ x, bs (beL 1 m.files.length) = x := ⟨_, rfl⟩
  have z1 : x1.size = 2 := by rw [← hx1, bs_size, beL_length]
  have z2 : x2.size = 2 := by rw [← hx2, bs_size, beL_length]
  have z3 : x3.size = 1 := by rw [← hx3, bs_size, beL_length]
  have ehd : (((⟨#[77, 65, 78, 49]⟩ : ByteArray) ++ x1) ++ x2) ++ x3 = bs (hdL m) := by
    rw [← hx1, ← hx2, ← hx3, show (⟨#[77, 65, 78, 49]⟩ : ByteArray) = bs [77, 65, 78, 49] from rfl, bs_app, bs_app, bs_app]
    unfold hdL
    simp only [List.append_assoc]
  rw [hx1] at M1
  rw [hx2] at M2
  rw [hx3] at M3
  have EH := Lib.hid ehd
  have K := Lib.hid (show LiesFl w (.slice a m.files.length c) m.files ∧ (∀ f ∈ m.files, flK f) ∧ (∀ f ∈ m.files, flB f = true) ∧ (∀ f ∈ m.files, f.name.size ≤ 24) ∧ Gr w W ∧ m.files.length ≤ 16 ∧ W.heap.size = w.heap.size + 1 from ⟨h, hK, hfb, hf24, gW, a5, hz⟩)
  have KS := Lib.hid S0
  have HW := Lib.hid hW
  have gUd : Gr W W.drew := Below.drew (Gr.refl W)
  have q4 : (4 : Int) + x1.size ≤ 9223372036854775807 := by omega
  have q5 : ((⟨#[77, 65, 78, 49]⟩ : ByteArray) ++ x1).size = 6 := by rw [ByteArray.size_append, z1]; rfl
  have q6 : (((⟨#[77, 65, 78, 49]⟩ : ByteArray) ++ x1) ++ x2).size = 8 := by rw [ByteArray.size_append, q5, z2]
  clear h hK hm a1 a2 a3 a4 a5 hnew hfb hf24 gW hz yA S0 P1 P2 P3 hx1 hx2 hx3 ehd hW
  go_enter Tryz.func77, Tryz.ntmps77
  go_wp2_with fail
  rw [← HW.out]
  refine RT.out.mono ?_; rintro e u ⟨rfl, g⟩
  have gud : Gr W u.drew := Below.drew g
  clear RT
  go_wp2_with fail
  go_region_held3 (fun u => Gr W u ∧ u.cell? ⟨w.heap.size, 0, none⟩ = some (.int .i64 m.stage) ∧ u.cell? ⟨w.heap.size, 1, none⟩ = some (.int .i64 m.pass) ∧ u.cell? ⟨w.heap.size, 2, none⟩ = some (.slice a m.files.length c)) (first | exact KS.out _ gud | exact KS.out _ (by assumption) | assumption | go_keep)
    ((first
      | (go_at_call 107; (with_reducible refine (M1.out _ (by assumption)).mono ?_); rintro e t2 ⟨rfl, hg, hst⟩)
      | (go_at_call 107; (with_reducible refine (M2.out _ (by assumption)).mono ?_); rintro e t2 ⟨rfl, hg, hst⟩)
      | (go_at_call 107; (with_reducible refine (M3.out _ (by assumption)).mono ?_); rintro e t2 ⟨rfl, hg, hst⟩)))
  have EHD := EH.out
  have ST := Lib.hid (show PtAt m W (.string (((⟨#[77, 65, 78, 49]⟩ : ByteArray) ++ x1) ++ x2 ++ x3)) (.int .i64 0) _ from ⟨0, Nat.zero_le _, rfl, by rw [EHD]; simp, (by assumption)⟩)
  clear EHD z1 z2 z3 q4 q5 q6 hst g gud gUd EH M1 M2 M3 MU hg
  go_wp2_with fail
  go_loopw [4, 5] (fun vs vi wr => PtAt m W vs vi wr) (fun _ vi _ => m.files.length - (intOf vi).toNat)
  case atStart => exact ST.out
  case round =>
    clear ST
    obtain ⟨i, hi1, rfl, rfl, g1⟩ := hrel
    obtain ⟨_, _, _, A2⟩ := KS.out wr g1
    have GWW := K.out.2.2.2.2.1.trans g1
    have hml := K.out.2.2.2.2.2.1
    have hwl : w.heap.size < wr.heap.size := by have := K.out.2.2.2.2.2.2; have := g1.size; omega
    have hfl := flatl_le (l := m.files.take i) (fun f hf => K.out.2.2.2.1 f (List.mem_of_mem_take hf))
    rw [List.length_take] at hfl
    have hsz : (bs (hdL m ++ ((m.files.take i).map flL).flatten)).size ≤ 700 := by rw [bs_size, List.length_append, hd_length]; omega
    by_cases hlt : i < m.files.length
    · obtain ⟨_, hc, b, o, rfl, hb, ⟨k0, k1, k2, k3⟩⟩ := fl_get (K.out.1.gr GWW) hlt
      have q1 : (i : Int) < (m.files.length : Int) := by omega
      have hmem := List.getElem_mem hlt
      obtain ⟨K0, K1, K2, K3, K4⟩ := K.out.2.1 _ hmem
      have hfb := K.out.2.2.1 _ hmem
      have hf24 := K.out.2.2.2.1 _ hmem
      have hstep := bytes_step hlt
      obtain ⟨f, hf⟩ : ∃ f, m.files[i] = f := ⟨_, rfl⟩
      rw [hf] at k0 k1 k2 k3 K0 K1 K2 K3 K4 hfb hf24 hstep
      unfold flB at hfb
      simp only [Bool.and_eq_true, decide_eq_true_eq] at hfb
      obtain ⟨_, ⟨f1, f2⟩, f3, f4⟩ := hfb
      obtain ⟨s0, hs0⟩ : ∃ s0, bs (hdL m ++ ((m.files.take i).map flL).flatten) = s0 := ⟨_, rfl⟩
      rw [hs0] at hsz ⊢
      obtain ⟨V, hV⟩ : ∃ V, V = wr.alloc (.cells #[.string f.name, .int .i64 f.size, .int .i64 f.count, .int .u32 f.sum] 48) := ⟨_, rfl⟩
      have yF : V.heap[wr.heap.size]? = some (.cells #[.string f.name, .int .i64 f.size, .int .i64 f.count, .int .u32 f.sum] 48 (0, 0)) := by rw [hV]; exact heap_alloc_new wr _
      have hVz : wr.heap.size < V.heap.size := by rw [hV]; simp
      have gV : Gr wr V := by rw [hV]; exact (Gr.refl wr).alloc (Nat.le_refl _) _
      have SF : ∀ u, Gr V u → Gr V u ∧ u.cell? ⟨wr.heap.size, 0, none⟩ = some (.string f.name) ∧ u.cell? ⟨wr.heap.size, 1, none⟩ = some (.int .i64 f.size) ∧ u.cell? ⟨wr.heap.size, 2, none⟩ = some (.int .i64 f.count) ∧ u.cell? ⟨wr.heap.size, 3, none⟩ = some (.int .u32 f.sum) := fun u g => by
        have y := (g.block wr.heap.size hVz).trans yF
        exact ⟨g, by rw [cells_at y]; rfl, by rw [cells_at y]; rfl, by rw [cells_at y]; rfl, by rw [cells_at y]; rfl⟩
      have MU := fun (n k : Int) (x : ByteArray) (hn : I64 n) (hk : I64 k) (hx : putS n k = x) (u : World) (g : Gr V u) => (rmust19_c n k hn hk u).mono fun e w' hh => (⟨by rw [← hx]; exact hh.1, SF w' (g.trans hh.2)⟩ : e = .returned (.string x) ∧ _)
      have P1 : putS (f.name.size : Int) 1 = _ := put_be (n := f.name.size) (k := 1) (by decide) (by omega)
      have P2 : putS f.size 1 = _ := put_is (n := f.size) (k := 1) (by decide) (by omega) (by omega)
      have P3 : putS f.count 8 = _ := put_is (n := f.count) (k := 8) (by decide) (by omega) (by omega)
      have P4 : putS f.sum 4 = _ := put_is (n := f.sum) (k := 4) (by decide) (by omega) (by omega)
      obtain ⟨x1, hx1⟩ : ∃ x, bs (beL 1 f.name.size) = x := ⟨_, rfl⟩
      obtain ⟨x2, hx2⟩ : ∃ x, bs (beL 1 f.size.toNat) = x := ⟨_, rfl⟩
      obtain ⟨x3, hx3⟩ : ∃ x, bs (beL 8 f.count.toNat) = x := ⟨_, rfl⟩
      obtain ⟨x4, hx4⟩ : ∃ x, bs (beL 4 f.sum.toNat) = x := ⟨_, rfl⟩
      rw [hx1] at P1
      rw [hx2] at P2
      rw [hx3] at P3
      rw [hx4] at P4
      have M1 := Lib.hid (MU (f.name.size : Int) 1 x1 (by unfold I64; omega) (by unfold I64; omega) P1)
      have M2 := Lib.hid (MU f.size 1 x2 K1 (by unfold I64; omega) P2)
      have M3 := Lib.hid (MU f.count 8 x3 K2 (by unfold I64; omega) P3)
      have M4 := Lib.hid (MU f.sum 4 x4 (by unfold I64; omega) (by unfold I64; omega) P4)
      have z1 : x1.size = 1 := by rw [← hx1, bs_size, beL_length]
      have z2 : x2.size = 1 := by rw [← hx2, bs_size, beL_length]
      have z3 : x3.size = 8 := by rw [← hx3, bs_size, beL_length]
      have z4 : x4.size = 4 := by rw [← hx4, bs_size, beL_length]
      have eall : ((((s0 ++ x1) ++ f.name) ++ x2) ++ x3) ++ x4 = bs (hdL m ++ ((m.files.take (i + 1)).map flL).flatten) := by
        rw [← hs0, ← hx1, ← hx2, ← hx3, ← hx4, hstep]
        have h1 : ∀ A B C D : List UInt8, (((bs A ++ f.name) ++ bs B) ++ bs C) ++ bs D = bs (A ++ (f.name.data.toList ++ (B ++ (C ++ D)))) := fun A B C D => by
          conv => lhs; rw [← bs_toList f.name]
          rw [bs_app, bs_app, bs_app, bs_app]
          simp only [List.append_assoc]
        rw [bs_app, h1]
        unfold flL
        simp only [List.append_assoc]
      have EALL := Lib.hid eall
      have r1 : (s0 ++ x1).size = s0.size + 1 := by rw [ByteArray.size_append, z1]
      have r2 : ((s0 ++ x1) ++ f.name).size = s0.size + 1 + f.name.size := by rw [ByteArray.size_append, r1]
      have r3 : (((s0 ++ x1) ++ f.name) ++ x2).size = s0.size + 1 + f.name.size + 1 := by rw [ByteArray.size_append, r2, z2]
      have r4 : ((((s0 ++ x1) ++ f.name) ++ x2) ++ x3).size = s0.size + 1 + f.name.size + 1 + 8 := by rw [ByteArray.size_append, r3, z3]
      have hszI : (s0.size : Int) ≤ 700 := by omega
      have hnI : (f.name.size : Int) ≤ 24 := by omega
      have cc1 : ¬ (9223372036854775807 < s0.size + x1.size) := by omega
      have cc2 : ¬ (9223372036854775807 < s0.size + x1.size + f.name.size) := by omega
      have cc3 : ¬ (9223372036854775807 < s0.size + x1.size + f.name.size + x2.size) := by omega
      have cc4 : ¬ (9223372036854775807 < s0.size + x1.size + f.name.size + x2.size + x3.size) := by omega
      have cc5 : ¬ (9223372036854775807 < s0.size + x1.size + f.name.size + x2.size + x3.size + x4.size) := by omega
      clear z1 z2 z3 z4 r1 r2 r3 r4 hszI hnI
      have hmx : m.files.length ≤ maxLen := by unfold maxLen; omega
      have hmI : (m.files.length : Int) ≤ 9223372036854775807 := by omega
      have hwr : IntKind.i64.wrap f.sum = f.sum := IntWalk.i64_in _ (by omega)
      have VS := Lib.hid SF
      have HV := Lib.hid hV
      have G1 := Lib.hid (g1.trans gV)
      have gVd : Gr V V.drew := Below.drew (Gr.refl V)
      clear hfl hstep hf K0 K1 K2 K3 K4 f1 f2 f3 f4 yF hVz SF MU P1 P2 P3 P4 hx1 hx2 hx3 hx4 eall hsz hs0 hmem hf24 gV hml GWW hV
      go_wp2_with fail
      rw [← HV.out]
      go_region_held3 (fun u => Gr V u ∧ u.cell? ⟨wr.heap.size, 0, none⟩ = some (.string f.name) ∧ u.cell? ⟨wr.heap.size, 1, none⟩ = some (.int .i64 f.size) ∧ u.cell? ⟨wr.heap.size, 2, none⟩ = some (.int .i64 f.count) ∧ u.cell? ⟨wr.heap.size, 3, none⟩ = some (.int .u32 f.sum)) (first | exact VS.out _ gVd | exact VS.out _ (by assumption) | assumption | go_keep)
        ((first
          | (go_at_call 107; (with_reducible refine (M1.out _ (by assumption)).mono ?_); rintro e t2 ⟨rfl, hg, hst⟩)
          | (go_at_call 107; (with_reducible refine (M2.out _ (by assumption)).mono ?_); rintro e t2 ⟨rfl, hg, hst⟩)
          | (go_at_call 107; (with_reducible refine (M3.out _ (by assumption)).mono ?_); rintro e t2 ⟨rfl, hg, hst⟩)
          | (go_at_call 107; (with_reducible refine (M4.out _ (by assumption)).mono ?_); rintro e t2 ⟨rfl, hg, hst⟩)))
      have NX := Lib.hid (show PtAt m W (.string (((((s0 ++ x1) ++ f.name) ++ x2) ++ x3) ++ x4)) (.int .i64 ((i : Int) + 1)) _ from ⟨i + 1, by omega, rfl, by rw [EALL.out], G1.out.trans hg⟩)
      clear hst hg gVd M1 M2 M3 M4 cc1 cc2 cc3 cc4 cc5 hwr k0 k1 k2 k3
      go_wp2_with fail
      go_roundw
      case rel => exact NX.out
      case measure => simp [intOf]; omega
    · have hie : i = m.files.length := by omega
      have q1 : ¬ (i : Int) < (m.files.length : Int) := by omega
      have e1 : bs (hdL m ++ ((m.files.take i).map flL).flatten) = bs (mnL m) := by rw [hie, List.take_length, hd_all]
      rw [e1] at hsz ⊢
      have CL := Lib.hid (rclose_c (bs (mnL m)) (by omega) wr)
      have G := Lib.hid GWW
      clear hfl hsz e1 hie GWW hml
      go_wp2_with fail
      refine CL.out.mono ?_; rintro e u2 ⟨rfl, g2⟩
      go_wp2_with fail
      go_ret2
      exact ⟨rfl, G.out.trans g2⟩
end Go.Proofs.YtignfbdgpgidpaaGreatDoor
/- Slices of whole numbers, and slices of these, whoever made them; rows of one's own of either. -/
namespace Go.Proofs.YtignfbdgpgidpaaGreatDoor
open Go.RowKit
set_option linter.unusedVariables false
set_option linter.unusedSimpArgs false
set_option maxRecDepth 20000
theorem gr_grownN {A B : World} (h : Gr A B) : A.grownBy B none := ⟨h.1, h.2, h.3, h.size, fun k hk _ => h.block k hk⟩
theorem add_zero (g j : Nat) : (⟨g, 0, none⟩ : Addr).add j = ⟨g, j, none⟩ := by by_cases h : j = 0 <;> simp [Addr.add, h]
def ints (l : List Int) : List Value := l.map (Value.int .i64)
def VRow (w : World) (b off : Nat) (vs : List Value) : Prop := b < w.heap.size ∧ ∀ j x, vs[j]? = some x → w.cell? ⟨b, off + j, none⟩ = some x
def LiesI (w : World) (v : Value) (l : List Int) : Prop := ∃ a c, v = .slice a l.length c ∧ l.length ≤ c ∧ (l = [] ∨ ∃ b off, a = some ⟨b, off, none⟩ ∧ VRow w b off (ints l))
theorem LiesI.kept {w w' : World} {row : Option Nat} {v : Value} {l : List Int} (h : LiesI w v l) (hg : w.grownBy w' row) (hne : ∀ a n c, v = .slice (some a) n c → row ≠ some a.block) : LiesI w' v l := by
  obtain ⟨a, c, rfl, hc, h⟩ := h
  refine ⟨a, c, rfl, hc, h.imp id ?_⟩
  rintro ⟨b, off, rfl, hr⟩
  have hb := hne _ _ _ rfl
  refine ⟨b, off, rfl, Nat.lt_of_lt_of_le hr.1 hg.size, fun j x hj => ?_⟩
  exact hg.cell (hr.2 j x hj) (fun e => hb e.symm)
theorem ownsRow_gr {base : Nat} {E : TypeId} {z : Nat} {w w' : World} {v : Value} {n : Nat} {xs : List Value} (h : w.ownsRow base E z v n xs) (g : Gr w w') : w'.ownsRow base E z v n xs := h.kept (gr_grownN g) (by cases hv : v.ownBlock <;> simp)
end Go.Proofs.YtignfbdgpgidpaaGreatDoor
