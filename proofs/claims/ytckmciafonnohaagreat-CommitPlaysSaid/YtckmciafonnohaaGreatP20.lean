/- In one text: MnRef5, Strs, Row. -/
import Derived.Test.YtckmciafonnohaaGreatP19
import Derived.Test.YtckmciafonnohaaGreatP15
import Derived.Test.YtckmciafonnohaaGreatP00
import Derived.Test.YtckmciafonnohaaGreatP05
import Derived.Maps.AppendAt
/- The document's answers of layer 19: Put. -/
namespace Go.Proofs.YtckmciafonnohaaGreat
open Go.RowKit FsPlain CrcPlain OctPlain MnPlain
set_option linter.unusedVariables false
set_option linter.unusedSimpArgs false
set_option maxRecDepth 20000
theorem rmust19_c (n k : Int) (hn : I64 n) (hk : I64 k) (w : World) :
    Calls Tryz.prog 66 #[.int .i64 n, .int .i64 k] w fun e w' => e = .returned (.string (putS n k)) ∧ Gr w w' := by
  go_enter Tryz.func66, Tryz.ntmps66
  go_wp2_with fail
  refine (rput_c n k hn hk _).mono ?_; rintro e u ⟨rfl, g⟩
  go_wp2_with fail
  go_ret
  exact ⟨rfl, g⟩
namespace MnPlain
/-- The head of a manifest's bytes. -/
def hdL (m : Mn) : List UInt8 := [77, 65, 78, 49] ++ (beL 2 m.stage.toNat ++ (beL 2 m.pass.toNat ++ beL 1 m.files.length))
theorem hd_all (m : Mn) : mnL m = hdL m ++ (m.files.map flL).flatten := by
  unfold mnL hdL
  simp only [List.append_assoc]
theorem hd_length (m : Mn) : (hdL m).length = 9 := by
  unfold hdL
  simp only [List.length_append, beL_length, List.length_cons, List.length_nil]
theorem put_be {n k : Nat} (hk : 1 ≤ k ∧ k ≤ 8) (hn : n < 256 ^ k) : putS (n : Int) (k : Int) = bs (beL k n) := by
  have : fitsB (n : Int) (k : Int) = true := by
    unfold fitsB
    rw [decide_eq_true_iff, Int.toNat_natCast]
    refine ⟨by omega, by omega, ?_⟩
    exact_mod_cast hn
  unfold putS
  rw [if_pos this, Int.toNat_natCast, Int.toNat_natCast]
theorem put_is {n : Int} {k : Nat} (hk : 1 ≤ k ∧ k ≤ 8) (h0 : 0 ≤ n) (hn : n.toNat < 256 ^ k) : putS n (k : Int) = bs (beL k n.toNat) := by
  have := put_be hk hn
  rwa [Int.toNat_of_nonneg h0] at this
end MnPlain
theorem rput19_no (m : Mn) {a : Option Addr} {n c : Nat} (w : World) (h : LiesFl w (.slice a n c) m.files) (hl : m.files.length ≤ maxLen) (hK : ∀ f ∈ m.files, flK f) (hs : I64 m.stage) (hp : I64 m.pass) (hm : mnB m = false) :
    Calls Tryz.prog 38 #[.agg #[.int .i64 m.stage, .int .i64 m.pass, .slice a n c]] w fun e w' => e = .returned (.tuple #[.string ⟨#[]⟩, .bool false]) ∧ Gr w w' := by
  obtain ⟨st, ps, l⟩ := m
  have RT := Lib.hid (fun u (g : Gr w u) => rmright_c st ps a n c l u (h.gr g) hl hK hs hp)
  rw [hm] at RT
  have gA := Gr.refl w
  clear h hl hK hs hp hm
  go_enter Tryz.func38, Tryz.ntmps38
  go_wp2_with fail
  refine (RT.out _ (gA.alloc (Nat.le_refl _) _)).mono ?_; rintro e u ⟨rfl, g⟩
  go_wp2_with fail
  go_ret2
  exact ⟨rfl, Gr.trans ((Gr.refl w).alloc (Nat.le_refl _) _) g⟩
/-- At the head of a file. -/
def PtAt (m : Mn) (w1 : World) (vs vi : Value) (wr : World) : Prop := ∃ i : Nat, i ≤ m.files.length ∧ vi = .int .i64 (i : Int) ∧ vs = .string (bs (hdL m ++ ((m.files.take i).map flL).flatten)) ∧ Gr w1 wr
theorem flatl_le {l : List Fl} (h : ∀ f ∈ l, f.name.size ≤ 24) : ((l.map flL).flatten).length ≤ 38 * l.length := by
  induction l with
  | nil => simp
  | cons f t ih =>
    have h1 := h f (by simp)
    have h2 := ih fun g hg => h g (by simp [hg])
    simp only [List.map_cons, List.flatten_cons, List.length_append, List.length_cons, flL_length]
    omega
set_option maxHeartbeats 8000000 in
theorem rput19_yes (m : Mn) {a : Option Addr} {n c : Nat} (w : World) (h : LiesFl w (.slice a n c) m.files) (hK : ∀ f ∈ m.files, flK f) (hm : mnB m = true) :
    Calls Tryz.prog 38 #[.agg #[.int .i64 m.stage, .int .i64 m.pass, .slice a n c]] w fun e w' => e = .returned (.tuple #[.string (mnS m), .bool true]) ∧ Gr w w' := by
  have hn : n = m.files.length := by
    obtain ⟨a', c', e, hc, _⟩ := h
    simp only [Value.slice.injEq] at e
    exact e.2.1
  subst hn
  have hb := hm
  unfold mnB at hb
  simp only [Bool.and_eq_true, decide_eq_true_eq] at hb
  obtain ⟨⟨⟨a1, a2⟩, ⟨a3, a4⟩, a5⟩, hnew⟩ := hb
  have hfb := newB_all hnew
  have hf24 : ∀ f ∈ m.files, f.name.size ≤ 24 := fun f hf => by
    have := hfb f hf
    unfold flB rightB at this
    simp only [Bool.and_eq_true, decide_eq_true_eq] at this
    have e : f.name.data.toList.length = f.name.size := rfl
    omega
  obtain ⟨W, hW⟩ : ∃ W, W = w.alloc (.cells #[.int .i64 m.stage, .int .i64 m.pass, .slice a m.files.length c] 36) := ⟨_, rfl⟩
  have gW : Gr w W := by rw [hW]; exact (Gr.refl w).alloc (Nat.le_refl _) _
  have hz : W.heap.size = w.heap.size + 1 := by rw [hW]; simp
  have yA : W.heap[w.heap.size]? = some (.cells #[.int .i64 m.stage, .int .i64 m.pass, .slice a m.files.length c] 36 (0, 0)) := by rw [hW]; exact heap_alloc_new w _
  have S0 : ∀ u, Gr W u → Gr W u ∧ u.cell? ⟨w.heap.size, 0, none⟩ = some (.int .i64 m.stage) ∧ u.cell? ⟨w.heap.size, 1, none⟩ = some (.int .i64 m.pass) ∧ u.cell? ⟨w.heap.size, 2, none⟩ = some (.slice a m.files.length c) := fun u g => by
    have y := (g.block w.heap.size (by omega)).trans yA
    exact ⟨g, by rw [cells_at y]; rfl, by rw [cells_at y]; rfl, by rw [cells_at y]; rfl⟩
  have RT := Lib.hid (rmright_c m.stage m.pass a m.files.length c m.files W (h.gr gW) (by unfold maxLen; omega) hK (by unfold I64; omega) (by unfold I64; omega))
  rw [show mnB ⟨m.stage, m.pass, m.files⟩ = true from hm] at RT
  have MU := Lib.hid (fun (n k : Int) (x : ByteArray) (hn : I64 n) (hk : I64 k) (hx : putS n k = x) (u : World) (g : Gr W u) => (rmust19_c n k hn hk u).mono fun e w' hh => (⟨by rw [← hx]; exact hh.1, S0 w' (g.trans hh.2)⟩ : e = .returned (.string x) ∧ _))
  have P1 : putS m.stage 2 = _ := put_is (n := m.stage) (k := 2) (by decide) (by omega) (by omega)
  have P2 : putS m.pass 2 = _ := put_is (n := m.pass) (k := 2) (by decide) (by omega) (by omega)
  have P3 : putS (m.files.length : Int) 1 = _ := put_be (n := m.files.length) (k := 1) (by decide) (by omega)
  have M1 := Lib.hid (MU.out m.stage 2 _ (by unfold I64; omega) (by unfold I64; omega) P1)
  have M2 := Lib.hid (MU.out m.pass 2 _ (by unfold I64; omega) (by unfold I64; omega) P2)
  have M3 := Lib.hid (MU.out (m.files.length : Int) 1 _ (by unfold I64; omega) (by unfold I64; omega) P3)
  obtain ⟨x1, hx1⟩ : ∃ x, bs (beL 2 m.stage.toNat) = x := ⟨_, rfl⟩
  obtain ⟨x2, hx2⟩ : ∃ x, bs (beL 2 m.pass.toNat) = x := ⟨_, rfl⟩
  obtain ⟨x3, hx3⟩ : ∃ x, bs (beL 1 m.files.length) = x := ⟨_, rfl⟩
  have z1 : x1.size = 2 := by rw [← hx1, bs_size, beL_length]
  have z2 : x2.size = 2 := by rw [← hx2, bs_size, beL_length]
  have z3 : x3.size = 1 := by rw [← hx3, bs_size, beL_length]
  have ehd : (((⟨#[77, 65, 78, 49]⟩ : ByteArray) ++ x1) ++ x2) ++ x3 = bs (hdL m) := by
    rw [← hx1, ← hx2, ← hx3, show (⟨#[77, 65, 78, 49]⟩ : ByteArray) = bs [77, 65, 78, 49] from rfl, bs_app, bs_app, bs_app]
    unfold hdL
    simp only [List.append_assoc]
  rw [hx1] at M1
  rw [hx2] at M2
  rw [hx3] at M3
  have EH := Lib.hid ehd
  have K := Lib.hid (show LiesFl w (.slice a m.files.length c) m.files ∧ (∀ f ∈ m.files, flK f) ∧ (∀ f ∈ m.files, flB f = true) ∧ (∀ f ∈ m.files, f.name.size ≤ 24) ∧ Gr w W ∧ m.files.length ≤ 16 ∧ W.heap.size = w.heap.size + 1 from ⟨h, hK, hfb, hf24, gW, a5, hz⟩)
  have KS := Lib.hid S0
  have HW := Lib.hid hW
  have gUd : Gr W W.drew := Below.drew (Gr.refl W)
  have q4 : (4 : Int) + x1.size ≤ 9223372036854775807 := by omega
  have q5 : ((⟨#[77, 65, 78, 49]⟩ : ByteArray) ++ x1).size = 6 := by rw [ByteArray.size_append, z1]; rfl
  have q6 : (((⟨#[77, 65, 78, 49]⟩ : ByteArray) ++ x1) ++ x2).size = 8 := by rw [ByteArray.size_append, q5, z2]
  clear h hK hm a1 a2 a3 a4 a5 hnew hfb hf24 gW hz yA S0 P1 P2 P3 hx1 hx2 hx3 ehd hW
  go_enter Tryz.func38, Tryz.ntmps38
  go_wp2_with fail
  rw [← HW.out]
  refine RT.out.mono ?_; rintro e u ⟨rfl, g⟩
  have gud : Gr W u.drew := Below.drew g
  clear RT
  go_wp2_with fail
  go_region_held3 (fun u => Gr W u ∧ u.cell? ⟨w.heap.size, 0, none⟩ = some (.int .i64 m.stage) ∧ u.cell? ⟨w.heap.size, 1, none⟩ = some (.int .i64 m.pass) ∧ u.cell? ⟨w.heap.size, 2, none⟩ = some (.slice a m.files.length c)) (first | exact KS.out _ gud | exact KS.out _ (by assumption) | assumption | go_keep)
    ((first
      | (go_at_call 66; (with_reducible refine (M1.out _ (by assumption)).mono ?_); rintro e t2 ⟨rfl, hg, hst⟩)
      | (go_at_call 66; (with_reducible refine (M2.out _ (by assumption)).mono ?_); rintro e t2 ⟨rfl, hg, hst⟩)
      | (go_at_call 66; (with_reducible refine (M3.out _ (by assumption)).mono ?_); rintro e t2 ⟨rfl, hg, hst⟩)))
  have EHD := EH.out
  have ST := Lib.hid (show PtAt m W (.string (((⟨#[77, 65, 78, 49]⟩ : ByteArray) ++ x1) ++ x2 ++ x3)) (.int .i64 0) _ from ⟨0, Nat.zero_le _, rfl, by rw [EHD]; simp, (by assumption)⟩)
  clear EHD z1 z2 z3 q4 q5 q6 hst g gud gUd EH M1 M2 M3 MU hg
  go_wp2_with fail
  go_loopw [4, 5] (fun vs vi wr => PtAt m W vs vi wr) (fun _ vi _ => m.files.length - (intOf vi).toNat)
  case atStart => exact ST.out
  case round =>
    clear ST
    obtain ⟨i, hi1, rfl, rfl, g1⟩ := hrel
    obtain ⟨_, _, _, A2⟩ := KS.out wr g1
    have GWW := K.out.2.2.2.2.1.trans g1
    have hml := K.out.2.2.2.2.2.1
    have hwl : w.heap.size < wr.heap.size := by have := K.out.2.2.2.2.2.2; have := g1.size; omega
    have hfl := flatl_le (l := m.files.take i) (fun f hf => K.out.2.2.2.1 f (List.mem_of_mem_take hf))
    rw [List.length_take] at hfl
    have hsz : (bs (hdL m ++ ((m.files.take i).map flL).flatten)).size ≤ 700 := by rw [bs_size, List.length_append, hd_length]; omega
    by_cases hlt : i < m.files.length
    · obtain ⟨_, hc, b, o, rfl, hb, ⟨k0, k1, k2, k3⟩⟩ := fl_get (K.out.1.gr GWW) hlt
      have q1 : (i : Int) < (m.files.length : Int) := by omega
      have hmem := List.getElem_mem hlt
      obtain ⟨K0, K1, K2, K3, K4⟩ := K.out.2.1 _ hmem
      have hfb := K.out.2.2.1 _ hmem
      have hf24 := K.out.2.2.2.1 _ hmem
      have hstep := bytes_step hlt
      obtain ⟨f, hf⟩ : ∃ f, m.files[i] = f := ⟨_, rfl⟩
      rw [hf] at k0 k1 k2 k3 K0 K1 K2 K3 K4 hfb hf24 hstep
      unfold flB at hfb
      simp only [Bool.and_eq_true, decide_eq_true_eq] at hfb
      obtain ⟨_, ⟨f1, f2⟩, f3, f4⟩ := hfb
      obtain ⟨s0, hs0⟩ : ∃ s0, bs (hdL m ++ ((m.files.take i).map flL).flatten) = s0 := ⟨_, rfl⟩
      rw [hs0] at hsz ⊢
      obtain ⟨V, hV⟩ : ∃ V, V = wr.alloc (.cells #[.string f.name, .int .i64 f.size, .int .i64 f.count, .int .u32 f.sum] 85) := ⟨_, rfl⟩
      have yF : V.heap[wr.heap.size]? = some (.cells #[.string f.name, .int .i64 f.size, .int .i64 f.count, .int .u32 f.sum] 85 (0, 0)) := by rw [hV]; exact heap_alloc_new wr _
      have hVz : wr.heap.size < V.heap.size := by rw [hV]; simp
      have gV : Gr wr V := by rw [hV]; exact (Gr.refl wr).alloc (Nat.le_refl _) _
      have SF : ∀ u, Gr V u → Gr V u ∧ u.cell? ⟨wr.heap.size, 0, none⟩ = some (.string f.name) ∧ u.cell? ⟨wr.heap.size, 1, none⟩ = some (.int .i64 f.size) ∧ u.cell? ⟨wr.heap.size, 2, none⟩ = some (.int .i64 f.count) ∧ u.cell? ⟨wr.heap.size, 3, none⟩ = some (.int .u32 f.sum) := fun u g => by
        have y := (g.block wr.heap.size hVz).trans yF
        exact ⟨g, by rw [cells_at y]; rfl, by rw [cells_at y]; rfl, by rw [cells_at y]; rfl, by rw [cells_at y]; rfl⟩
      have MU := fun (n k : Int) (x : ByteArray) (hn : I64 n) (hk : I64 k) (hx : putS n k = x) (u : World) (g : Gr V u) => (rmust19_c n k hn hk u).mono fun e w' hh => (⟨by rw [← hx]; exact hh.1, SF w' (g.trans hh.2)⟩ : e = .returned (.string x) ∧ _)
      have P1 : putS (f.name.size : Int) 1 = _ := put_be (n := f.name.size) (k := 1) (by decide) (by omega)
      have P2 : putS f.size 1 = _ := put_is (n := f.size) (k := 1) (by decide) (by omega) (by omega)
      have P3 : putS f.count 8 = _ := put_is (n := f.count) (k := 8) (by decide) (by omega) (by omega)
      have P4 : putS f.sum 4 = _ := put_is (n := f.sum) (k := 4) (by decide) (by omega) (by omega)
      obtain ⟨x1, hx1⟩ : ∃ x, bs (beL 1 f.name.size) = x := ⟨_, rfl⟩
      obtain ⟨x2, hx2⟩ : ∃ x, bs (beL 1 f.size.toNat) = x := ⟨_, rfl⟩
      obtain ⟨x3, hx3⟩ : ∃ x, bs (beL 8 f.count.toNat) = x := ⟨_, rfl⟩
      obtain ⟨x4, hx4⟩ : ∃ x, bs (beL 4 f.sum.toNat) = x := ⟨_, rfl⟩
      rw [hx1] at P1
      rw [hx2] at P2
      rw [hx3] at P3
      rw [hx4] at P4
      have M1 := Lib.hid (MU (f.name.size : Int) 1 x1 (by unfold I64; omega) (by unfold I64; omega) P1)
      have M2 := Lib.hid (MU f.size 1 x2 K1 (by unfold I64; omega) P2)
      have M3 := Lib.hid (MU f.count 8 x3 K2 (by unfold I64; omega) P3)
      have M4 := Lib.hid (MU f.sum 4 x4 (by unfold I64; omega) (by unfold I64; omega) P4)
      have z1 : x1.size = 1 := by rw [← hx1, bs_size, beL_length]
      have z2 : x2.size = 1 := by rw [← hx2, bs_size, beL_length]
      have z3 : x3.size = 8 := by rw [← hx3, bs_size, beL_length]
      have z4 : x4.size = 4 := by rw [← hx4, bs_size, beL_length]
      have eall : ((((s0 ++ x1) ++ f.name) ++ x2) ++ x3) ++ x4 = bs (hdL m ++ ((m.files.take (i + 1)).map flL).flatten) := by
        rw [← hs0, ← hx1, ← hx2, ← hx3, ← hx4, hstep]
        have h1 : ∀ A B C D : List UInt8, (((bs A ++ f.name) ++ bs B) ++ bs C) ++ bs D = bs (A ++ (f.name.data.toList ++ (B ++ (C ++ D)))) := fun A B C D => by
          conv => lhs; rw [← bs_toList f.name]
          rw [bs_app, bs_app, bs_app, bs_app]
          simp only [List.append_assoc]
        rw [bs_app, h1]
        unfold flL
        simp only [List.append_assoc]
      have EALL := Lib.hid eall
      have r1 : (s0 ++ x1).size = s0.size + 1 := by rw [ByteArray.size_append, z1]
      have r2 : ((s0 ++ x1) ++ f.name).size = s0.size + 1 + f.name.size := by rw [ByteArray.size_append, r1]
      have r3 : (((s0 ++ x1) ++ f.name) ++ x2).size = s0.size + 1 + f.name.size + 1 := by rw [ByteArray.size_append, r2, z2]
      have r4 : ((((s0 ++ x1) ++ f.name) ++ x2) ++ x3).size = s0.size + 1 + f.name.size + 1 + 8 := by rw [ByteArray.size_append, r3, z3]
      have hszI : (s0.size : Int) ≤ 700 := by omega
      have hnI : (f.name.size : Int) ≤ 24 := by omega
      have cc1 : ¬ (9223372036854775807 < s0.size + x1.size) := by omega
      have cc2 : ¬ (9223372036854775807 < s0.size + x1.size + f.name.size) := by omega
      have cc3 : ¬ (9223372036854775807 < s0.size + x1.size + f.name.size + x2.size) := by omega
      have cc4 : ¬ (9223372036854775807 < s0.size + x1.size + f.name.size + x2.size + x3.size) := by omega
      have cc5 : ¬ (9223372036854775807 < s0.size + x1.size + f.name.size + x2.size + x3.size + x4.size) := by omega
      clear z1 z2 z3 z4 r1 r2 r3 r4 hszI hnI
      have hmx : m.files.length ≤ maxLen := by unfold maxLen; omega
      have hmI : (m.files.length : Int) ≤ 9223372036854775807 := by omega
      have hwr : IntKind.i64.wrap f.sum = f.sum := IntWalk.i64_in _ (by omega)
      have VS := Lib.hid SF
      have HV := Lib.hid hV
      have G1 := Lib.hid (g1.trans gV)
      have gVd : Gr V V.drew := Below.drew (Gr.refl V)
      clear hfl hstep hf K0 K1 K2 K3 K4 f1 f2 f3 f4 yF hVz SF MU P1 P2 P3 P4 hx1 hx2 hx3 hx4 eall hsz hs0 hmem hf24 gV hml GWW hV
      go_wp2_with fail
      rw [← HV.out]
      go_region_held3 (fun u => Gr V u ∧ u.cell? ⟨wr.heap.size, 0, none⟩ = some (.string f.name) ∧ u.cell? ⟨wr.heap.size, 1, none⟩ = some (.int .i64 f.size) ∧ u.cell? ⟨wr.heap.size, 2, none⟩ = some (.int .i64 f.count) ∧ u.cell? ⟨wr.heap.size, 3, none⟩ = some (.int .u32 f.sum)) (first | exact VS.out _ gVd | exact VS.out _ (by assumption) | assumption | go_keep)
        ((first
          | (go_at_call 66; (with_reducible refine (M1.out _ (by assumption)).mono ?_); rintro e t2 ⟨rfl, hg, hst⟩)
          | (go_at_call 66; (with_reducible refine (M2.out _ (by assumption)).mono ?_); rintro e t2 ⟨rfl, hg, hst⟩)
          | (go_at_call 66; (with_reducible refine (M3.out _ (by assumption)).mono ?_); rintro e t2 ⟨rfl, hg, hst⟩)
          | (go_at_call 66; (with_reducible refine (M4.out _ (by assumption)).mono ?_); rintro e t2 ⟨rfl, hg, hst⟩)))
      have NX := Lib.hid (show PtAt m W (.string (((((s0 ++ x1) ++ f.name) ++ x2) ++ x3) ++ x4)) (.int .i64 ((i : Int) + 1)) _ from ⟨i + 1, by omega, rfl, by rw [EALL.out], G1.out.trans hg⟩)
      clear hst hg gVd M1 M2 M3 M4 cc1 cc2 cc3 cc4 cc5 hwr k0 k1 k2 k3
      go_wp2_with fail
      go_roundw
      case rel => exact NX.out
      case measure => simp [intOf]; omega
    · have hie : i = m.files.length := by omega
      have q1 : ¬ (i : Int) < (m.files.length : Int) := by omega
      have e1 : bs (hdL m ++ ((m.files.take i).map flL).flatten) = bs (mnL m) := by rw [hie, List.take_length, hd_all]
      rw [e1] at hsz ⊢
      have CL := Lib.hid (rclose_c (bs (mnL m)) (by omega) wr)
      have G := Lib.hid GWW
      clear hfl hsz e1 hie GWW hml
      go_wp2_with fail
      refine CL.out.mono ?_; rintro e u2 ⟨rfl, g2⟩
      go_wp2_with fail
      go_ret2
      exact ⟨rfl, G.out.trans g2⟩
end Go.Proofs.YtckmciafonnohaaGreat
/- Rows of strings in memory; a slice that holds these strings, whoever made it. -/
namespace Go.Proofs.YtckmciafonnohaaGreat
open Go.RowKit
set_option linter.unusedVariables false
set_option linter.unusedSimpArgs false
set_option maxRecDepth 20000
def strs (l : List ByteArray) : List Value := l.map Value.string
/-- A row of strings lies at b, from off on. -/
def SRow (w : World) (b off : Nat) (l : List ByteArray) : Prop := b < w.heap.size ∧ ∀ j x, l[j]? = some x → w.cell? ⟨b, off + j, none⟩ = some (.string x)
theorem SRow.gr {w w' : World} {b off : Nat} {l : List ByteArray} (h : SRow w b off l) (g : Gr w w') : SRow w' b off l := by
  refine ⟨Nat.lt_of_lt_of_le h.1 g.size, fun j x hj => ?_⟩
  rw [Below.cell g (p := ⟨b, off + j, none⟩) h.1]
  exact h.2 j x hj
theorem srow_of {w : World} {a : Option Addr} {l : List ByteArray} (h : RowIn w a (l.map .string)) (hne : 1 ≤ l.length) : ∃ b off, a = some ⟨b, off, none⟩ ∧ SRow w b off l := by
  rcases h with h | ⟨b, off, rfl, hb, hc⟩
  · cases l with
    | nil => simp at hne
    | cons x r => simp at h
  · exact ⟨b, off, rfl, hb, fun j x hj => hc j _ (by rw [List.getElem?_map, hj]; rfl)⟩
theorem take_at {l : List ByteArray} {j : Nat} (hj : j < l.length) : ∃ x, l[j]? = some x ∧ l.take (j + 1) = l.take j ++ [x] ∧ x ∈ l :=
  ⟨l[j], List.getElem?_eq_getElem hj, List.take_succ_eq_append_getElem hj, List.getElem_mem hj⟩
/-- v is a slice of these strings. -/
def Lies (w : World) (v : Value) (L : List ByteArray) : Prop := ∃ a c, v = .slice a L.length c ∧ L.length ≤ c ∧ (L = [] ∨ ∃ b off, a = some ⟨b, off, none⟩ ∧ SRow w b off L)
theorem Lies.gr {w w' : World} {v : Value} {L : List ByteArray} (h : Lies w v L) (g : Gr w w') : Lies w' v L := by
  obtain ⟨a, c, rfl, hc, h⟩ := h
  refine ⟨a, c, rfl, hc, h.imp id ?_⟩
  rintro ⟨b, off, rfl, hr⟩
  exact ⟨b, off, rfl, hr.gr g⟩
theorem lies_own {w : World} {B : Nat} {v : Value} {L : List ByteArray} (h : w.ownsRow B 9 1 v L.length (strs L)) : Lies w v L := by
  have hc := @World.ownsRow.cells w _ _ _ _ _ _ h
  have hl := h.lt
  obtain ⟨_, p⟩ := h
  rcases p with ⟨rfl, z⟩ | ⟨g, cap, cur, rfl, _, _, hn, _⟩
  · exact ⟨none, 0, by rw [z], by omega, .inl (List.eq_nil_of_length_eq_zero z)⟩
  · refine ⟨_, cap, rfl, hn, .inr ⟨g, 0, rfl, (hl g rfl).2, fun j x hj => ?_⟩⟩
    have := hc (g := g) rfl j (.string x) (by unfold strs; rw [List.getElem?_map, hj]; rfl)
    rw [Nat.zero_add]
    have ea : Addr.add ⟨g, 0, none⟩ j = ⟨g, j, none⟩ := by by_cases h : j = 0 <;> simp [Addr.add, h]
    rwa [ea] at this
theorem lies_in {w : World} {t : TypeId} {v : Value} (ht : Tryz.prog.underlying t = some (.slice 9)) (h : Rd Tryz.prog w t v) : ∃ L : List ByteArray, Lies w v L ∧ L.length ≤ maxLen ∧ ∀ s ∈ L, s.size ≤ maxLen := by
  obtain ⟨a, n, c, hv, hc⟩ := rd_cap ht h
  obtain ⟨a', c', l, rfl, hl, hr, hs⟩ := rd_strings ht Tryz.underlying9 (by kernel_rfl) h
  simp only [Value.slice.injEq] at hv
  obtain ⟨rfl, rfl, rfl⟩ := hv
  refine ⟨l, ⟨a', c', rfl, hc, ?_⟩, hl, hs⟩
  rcases Nat.eq_zero_or_pos l.length with h0 | h0
  · exact .inl (List.eq_nil_of_length_eq_zero h0)
  · exact .inr (srow_of hr h0)
/-- A slice of one string that the call has just made. -/
theorem lies_one (w : World) (s : ByteArray) (T : TypeId) : Lies (w.alloc (.cells #[.string s] T)) (.slice (some ⟨w.heap.size, 0, none⟩) 1 1) [s] := by
  refine ⟨_, 1, rfl, Nat.le_refl _, .inr ⟨_, _, rfl, by rw [World.size_alloc]; omega, fun j x hj => ?_⟩⟩
  obtain rfl : j = 0 := by have := (List.getElem?_eq_some_iff.1 hj).1; simpa using this
  simp at hj
  subst hj
  rw [World.cell?_alloc_new]
  rfl
end Go.Proofs.YtckmciafonnohaaGreat
/- A row of one's own as a part of a world; what an append makes of it. -/
namespace Go.Proofs.YtckmciafonnohaaGreat
open Go.RowKit
set_option linter.unusedVariables false
set_option linter.unusedSimpArgs false
set_option maxRecDepth 20000
/-- A row of elements of a type. -/
def RowE (E : TypeId) (z : Nat) (v : Value) (n : Nat) (xs : List Value) : Asn := fun w B => w.ownsRow 0 E z v n xs ∧ (∀ b, v.ownBlock = some b → B b) ∧ ∀ b, B b → b < w.heap.size
theorem fr_rowE (E : TypeId) (z : Nat) (v : Value) (n : Nat) (xs : List Value) : Fr (RowE E z v n xs) where
  fr := fun {w w' B C} ⟨h, hB, hl⟩ o d => by
    refine ⟨⟨h.1, ?_⟩, hB, fun b hb => Nat.lt_of_lt_of_le (hl b hb) o.size⟩
    rcases h.2 with h3 | ⟨g, cap, cur, rfl, h4, h5, h6⟩
    · exact .inl h3
    · exact .inr ⟨g, cap, cur, rfl, h4, by rw [o.block _ (lt_of_block h5) (d g (hB g rfl))]; exact h5, h6⟩
  lo := fun ⟨_, _, hl⟩ => hl
theorem rowE_nil (E : TypeId) (z : Nat) (w : World) : RowE E z (.slice none 0 0) 0 [] w (fun _ => False) := ⟨World.ownsRow_nil _ _ _ _, (fun b hb => by cases hb), fun b hb => hb.elim⟩
theorem rowE_shape {E : TypeId} {z : Nat} {v : Value} {n : Nat} {xs : List Value} {w : World} {B : Nat → Prop} (h : RowE E z v n xs w B) : ∃ a c, v = .slice a n c ∧ n ≤ c ∧ c ≤ maxLen ∧ (a = none → n = 0) := by
  rcases h.1.2 with ⟨rfl, rfl⟩ | ⟨g, cap, cur, rfl, _, _, h1, h2, _⟩
  · exact ⟨none, 0, rfl, Nat.le_refl _, Nat.zero_le _, fun _ => rfl⟩
  · exact ⟨_, cap, rfl, h1, h2, fun h => by cases h⟩
/-- Behind an append that the walk has met. -/
theorem rowE_next {E : TypeId} {z : Nat} {v v' : Value} {n n' : Nat} {xs xs' : List Value} {w w1 w' : World} {B : Nat → Prop} (h : RowE E z v n xs w B) (g : Gr w w1) (hown : w'.ownsRow 0 E z v' n' xs') (hg : w1.grownBy w' v.ownBlock) (hat : v'.ownBlock = v.ownBlock ∨ v'.ownBlock = some w1.heap.size) :
    ∃ B', RowE E z v' n' xs' w' B' ∧ Nx B w B' w' := by
  obtain ⟨_, hB, hl⟩ := h
  refine ⟨fun b => v'.ownBlock = some b, ⟨hown, fun b hb => hb, fun b hb => (hown.lt b hb).2⟩, ?_, fun b hb => ?_⟩
  · exact (Only.ofGr g).trans (Only.grown hg hB)
  · rcases hat with h1 | h1
    · rw [h1] at hb; exact .inl (hB b hb)
    · rw [h1] at hb; simp only [Option.some.injEq] at hb; rw [← hb]; exact .inr g.size
/-- A row of strings. -/
def RowA (v : Value) (l : List ByteArray) : Asn := RowE 9 1 v l.length (strs l)
theorem fr_row (v : Value) (l : List ByteArray) : Fr (RowA v l) := fr_rowE _ _ _ _ _
theorem row_nil (w : World) : RowA (.slice none 0 0) [] w (fun _ => False) := rowE_nil _ _ w
theorem row_lies {v : Value} {l : List ByteArray} {w : World} {B : Nat → Prop} (h : RowA v l w B) : Lies w v l := lies_own h.1
theorem row_app {v v' : Value} {l : List ByteArray} {r : ByteArray} {w w1 w' : World} {B : Nat → Prop} (h : RowA v l w B) (g : Gr w w1) (hown : w'.ownsRow 0 9 1 v' (l.length + 1) (strs l ++ [.string r])) (hg : w1.grownBy w' v.ownBlock) (hat : v'.ownBlock = v.ownBlock ∨ v'.ownBlock = some w1.heap.size) :
    ∃ B', RowA v' (l ++ [r]) w' B' ∧ Nx B w B' w' := by
  have := rowE_next h g hown hg hat
  unfold RowA
  rwa [List.length_append, List.length_singleton, show strs (l ++ [r]) = strs l ++ [.string r] by simp [strs]]
theorem infoS : (Tryz.prog.info? 9).map (fun i => (i.zero, i.size, i.bytes)) = some (some (.string ⟨#[]⟩), 1, 16) := by kernel_rfl
/-- A store into a block known whole. -/
theorem blk_next {p i : Nat} {c : Array Value} {T : TypeId} {w : World} {B : Nat → Prop} (h : Blk p c T w B) (u : Value) : ∃ B', Blk p (c.setIfInBounds i u) T (w.setCell ⟨p, i, none⟩ u) B' ∧ Nx B w B' (w.setCell ⟨p, i, none⟩ u) :=
  ⟨B, ⟨cells_set h.1 i u, h.2⟩, Nx.of (Only.cell1 _ _ _ _) fun b hb => (h.2 b).2 hb⟩
end Go.Proofs.YtckmciafonnohaaGreat
