/- In one text: MnPb. -/
import Derived.Test.YtignfbdgpgidpaaGreatDoorK15
import Derived.Test.YtignfbdgpgidpaaGreatDoorK14
/- The program's layer 19: number, head, entry, Put. -/
namespace Go.Proofs.YtignfbdgpgidpaaGreatDoor
open Go.RowKit FsPlain CrcPlain OctPlain MnPlain
set_option linter.unusedVariables false
set_option linter.unusedSimpArgs false
set_option maxRecDepth 20000
theorem number19_c (n k : Int) (hn : I64 n) (hk : I64 k) (w : World) :
    Calls Tryz.prog 114 #[.int .i64 n, .int .i64 k] w fun e w' => e = .returned (.string (putS n k)) ∧ Gr w w' := by
  go_enter Tryz.func114, Tryz.ntmps114
  go_wp2_with fail
  refine (put_c n k hn hk _).mono ?_; rintro e u ⟨rfl, g⟩
  go_wp2_with fail
  go_ret
  exact ⟨rfl, g⟩
set_option maxHeartbeats 4000000 in
theorem head19_c (m : Mn) (v : Value) {a : Option Addr} {c : Nat} (hv : v = .slice a m.files.length c) (hm : mnB m = true) (w : World) :
    Calls Tryz.prog 85 #[.agg #[.int .i64 m.stage, .int .i64 m.pass, v]] w fun e w' => e = .returned (.string (bs (hdL m))) ∧ Gr w w' := by
  subst hv
  unfold mnB at hm
  simp only [Bool.and_eq_true, decide_eq_true_eq] at hm
  obtain ⟨⟨⟨a1, a2⟩, ⟨a3, a4⟩, a5⟩, _⟩ := hm
  obtain ⟨W, hW⟩ : ∃ W, W = w.alloc (.cells #[.int .i64 m.stage, .int .i64 m.pass, .slice a m.files.length c] 27) := ⟨_, rfl⟩
  have gW : Gr w W := by rw [hW]; exact gr19 _ _
  have hz : W.heap.size = w.heap.size + 1 := by rw [hW]; simp
  have yA : W.heap[w.heap.size]? = some (.cells #[.int .i64 m.stage, .int .i64 m.pass, .slice a m.files.length c] 27 (0, 0)) := by rw [hW]; exact heap_alloc_new w _
  have S0 : ∀ u, Gr W u → Gr W u ∧ u.cell? ⟨w.heap.size, 0, none⟩ = some (.int .i64 m.stage) ∧ u.cell? ⟨w.heap.size, 1, none⟩ = some (.int .i64 m.pass) ∧ u.cell? ⟨w.heap.size, 2, none⟩ = some (.slice a m.files.length c) := fun u g => by
    have y := (g.block w.heap.size (by omega)).trans yA
    exact ⟨g, by rw [cells_at y]; rfl, by rw [cells_at y]; rfl, by rw [cells_at y]; rfl⟩
  have MU := Lib.hid (fun (n k : Int) (x : ByteArray) (hn : I64 n) (hk : I64 k) (hx : putS n k = x) (u : World) (g : Gr W u) => (number19_c n k hn hk u).mono fun e w' hh => (⟨by rw [← hx]; exact hh.1, S0 w' (g.trans hh.2)⟩ : e = .returned (.string x) ∧ _))
  have P1 : putS m.stage 2 = _ := put_is (n := m.stage) (k := 2) (by decide) (by omega) (by omega)
  have P2 : putS m.pass 2 = _ := put_is (n := m.pass) (k := 2) (by decide) (by omega) (by omega)
  have P3 : putS (m.files.length : Int) 1 = _ := put_be (n := m.files.length) (k := 1) (by decide) (by omega)
  have M1 := Lib.hid (MU.out m.stage 2 _ (by unfold I64; omega) (by unfold I64; omega) P1)
  have M2 := Lib.hid (MU.out m.pass 2 _ (by unfold I64; omega) (by unfold I64; omega) P2)
  have M3 := Lib.hid (MU.out (m.files.length : Int) 1 _ (by unfold I64; omega) (by unfold I64; omega) P3)
  obtain ⟨x1, hx1⟩ : ∃ x, bs (beL 2 m.stage.toNat) = x := ⟨_, rfl⟩
  obtain ⟨x2, hx2⟩ : ∃ x, bs (beL 2 m.pass.toNat) = x := ⟨_, rfl⟩
  obtain ⟨x3, hx3⟩ : ∃ x, bs (beL 1 m.files.length) = x := ⟨_, rfl⟩
  have z1 : x1.size = 2 := by rw [← hx1, bs_size, beL_length]
  have z2 : x2.size = 2 := by rw [← hx2, bs_size, beL_length]
  have z3 : x3.size = 1 := by rw [← hx3, bs_size, beL_length]
  have ehd : (((⟨#[77, 65, 78, 49]⟩ : ByteArray) ++ x1) ++ x2) ++ x3 = bs (hdL m) := by
    rw [← hx1, ← hx2, ← hx3, show (⟨#[77, 65, 78, 49]⟩ : ByteArray) = bs [77, 65, 78, 49] from rfl, bs_app, bs_app, bs_app]
    unfold hdL
    simp only [List.append_assoc]
  rw [hx1] at M1
  rw [hx2] at M2
  rw [hx3] at M3
  have EH := Lib.hid ehd
  have KS := Lib.hid S0
  have HW := Lib.hid hW
  have GW := Lib.hid gW
  have gUd : Gr W W.drew := Below.drew (Gr.refl W)
  have q4 : (4 : Int) + x1.size ≤ 9223372036854775807 := by omega
  have q5 : ((⟨#[77, 65, 78, 49]⟩ : ByteArray) ++ x1).size = 6 := by rw [ByteArray.size_append, z1]; rfl
  have q6 : (((⟨#[77, 65, 78, 49]⟩ : ByteArray) ++ x1) ++ x2).size = 8 := by rw [ByteArray.size_append, q5, z2]
  clear a1 a2 a3 a4 a5 gW hz yA S0 P1 P2 P3 hx1 hx2 hx3 ehd hW MU
  go_enter Tryz.func85, Tryz.ntmps85
  go_wp2_with fail
  rw [← HW.out]
  go_region_held3 (fun u => Gr W u ∧ u.cell? ⟨w.heap.size, 0, none⟩ = some (.int .i64 m.stage) ∧ u.cell? ⟨w.heap.size, 1, none⟩ = some (.int .i64 m.pass) ∧ u.cell? ⟨w.heap.size, 2, none⟩ = some (.slice a m.files.length c)) (first | exact KS.out _ gUd | exact KS.out _ (by assumption) | assumption | go_keep)
    ((first
      | (go_at_call 114; (with_reducible refine (M1.out _ (by assumption)).mono ?_); rintro e t2 ⟨rfl, hg, hst⟩)
      | (go_at_call 114; (with_reducible refine (M2.out _ (by assumption)).mono ?_); rintro e t2 ⟨rfl, hg, hst⟩)
      | (go_at_call 114; (with_reducible refine (M3.out _ (by assumption)).mono ?_); rintro e t2 ⟨rfl, hg, hst⟩)))
  go_wp2_with fail
  go_ret
  exact ⟨ret_s EH.out, GW.out.trans hg⟩
set_option maxHeartbeats 4000000 in
theorem entry19_c (f : Fl) (h24 : f.name.size ≤ 24) (hK : flK f) (hfb : flB f = true) (w : World) :
    Calls Tryz.prog 86 #[.agg #[.string f.name, .int .i64 f.size, .int .i64 f.count, .int .u32 f.sum]] w fun e w' => e = .returned (.string (bs (flL f))) ∧ Gr w w' := by
  obtain ⟨K0, K1, K2, K3, K4⟩ := hK
  unfold flB at hfb
  simp only [Bool.and_eq_true, decide_eq_true_eq] at hfb
  obtain ⟨_, ⟨f1, f2⟩, f3, f4⟩ := hfb
  obtain ⟨V, hV⟩ : ∃ V, V = w.alloc (.cells #[.string f.name, .int .i64 f.size, .int .i64 f.count, .int .u32 f.sum] 48) := ⟨_, rfl⟩
  have yF : V.heap[w.heap.size]? = some (.cells #[.string f.name, .int .i64 f.size, .int .i64 f.count, .int .u32 f.sum] 48 (0, 0)) := by rw [hV]; exact heap_alloc_new w _
  have hVz : w.heap.size < V.heap.size := by rw [hV]; simp
  have gV : Gr w V := by rw [hV]; exact gr19 _ _
  have SF : ∀ u, Gr V u → Gr V u ∧ u.cell? ⟨w.heap.size, 0, none⟩ = some (.string f.name) ∧ u.cell? ⟨w.heap.size, 1, none⟩ = some (.int .i64 f.size) ∧ u.cell? ⟨w.heap.size, 2, none⟩ = some (.int .i64 f.count) ∧ u.cell? ⟨w.heap.size, 3, none⟩ = some (.int .u32 f.sum) := fun u g => by
    have y := (g.block w.heap.size hVz).trans yF
    exact ⟨g, by rw [cells_at y]; rfl, by rw [cells_at y]; rfl, by rw [cells_at y]; rfl, by rw [cells_at y]; rfl⟩
  have MU := fun (n k : Int) (x : ByteArray) (hn : I64 n) (hk : I64 k) (hx : putS n k = x) (u : World) (g : Gr V u) => (number19_c n k hn hk u).mono fun e w' hh => (⟨by rw [← hx]; exact hh.1, SF w' (g.trans hh.2)⟩ : e = .returned (.string x) ∧ _)
  have P1 : putS (f.name.size : Int) 1 = _ := put_be (n := f.name.size) (k := 1) (by decide) (by omega)
  have P2 : putS f.size 1 = _ := put_is (n := f.size) (k := 1) (by decide) (by omega) (by omega)
  have P3 : putS f.count 8 = _ := put_is (n := f.count) (k := 8) (by decide) (by omega) (by omega)
  have P4 : putS f.sum 4 = _ := put_is (n := f.sum) (k := 4) (by decide) (by omega) (by omega)
  obtain ⟨x1, hx1⟩ : ∃ x, bs (beL 1 f.name.size) = x := ⟨_, rfl⟩
  obtain ⟨x2, hx2⟩ : ∃ x, bs (beL 1 f.size.toNat) = x := ⟨_, rfl⟩
  obtain ⟨x3, hx3⟩ : ∃ x, bs (beL 8 f.count.toNat) = x := ⟨_, rfl⟩
  obtain ⟨x4, hx4⟩ : ∃ x, bs (beL 4 f.sum.toNat) = x := ⟨_, rfl⟩
  rw [hx1] at P1
  rw [hx2] at P2
  rw [hx3] at P3
  rw [hx4] at P4
  have M1 := Lib.hid (MU (f.name.size : Int) 1 x1 (by unfold I64; omega) (by unfold I64; omega) P1)
  have M2 := Lib.hid (MU f.size 1 x2 K1 (by unfold I64; omega) P2)
  have M3 := Lib.hid (MU f.count 8 x3 K2 (by unfold I64; omega) P3)
  have M4 := Lib.hid (MU f.sum 4 x4 (by unfold I64; omega) (by unfold I64; omega) P4)
  have z1 : x1.size = 1 := by rw [← hx1, bs_size, beL_length]
  have z2 : x2.size = 1 := by rw [← hx2, bs_size, beL_length]
  have z3 : x3.size = 8 := by rw [← hx3, bs_size, beL_length]
  have z4 : x4.size = 4 := by rw [← hx4, bs_size, beL_length]
  have eall : ((((x1 ++ f.name) ++ x2) ++ x3) ++ x4) = bs (flL f) := by
    rw [← hx1, ← hx2, ← hx3, ← hx4]
    have h1 : ∀ A B C D : List UInt8, (((bs A ++ f.name) ++ bs B) ++ bs C) ++ bs D = bs (A ++ (f.name.data.toList ++ (B ++ (C ++ D)))) := fun A B C D => by
      conv => lhs; rw [← bs_toList f.name]
      rw [bs_app, bs_app, bs_app, bs_app]
      simp only [List.append_assoc]
    rw [h1]
    rfl
  have EALL := Lib.hid eall
  have cc1 : ¬ (9223372036854775807 < x1.size + f.name.size) := by omega
  have cc2 : ¬ (9223372036854775807 < x1.size + f.name.size + x2.size) := by omega
  have cc3 : ¬ (9223372036854775807 < x1.size + f.name.size + x2.size + x3.size) := by omega
  have cc4 : ¬ (9223372036854775807 < x1.size + f.name.size + x2.size + x3.size + x4.size) := by omega
  have hwr : IntKind.i64.wrap f.sum = f.sum := IntWalk.i64_in _ (by omega)
  have VS := Lib.hid SF
  have HV := Lib.hid hV
  have GV := Lib.hid gV
  have gVd : Gr V V.drew := Below.drew (Gr.refl V)
  clear z1 z2 z3 z4 K0 K1 K2 K3 K4 f1 f2 f3 f4 yF hVz SF MU P1 P2 P3 P4 hx1 hx2 hx3 hx4 eall gV hV h24
  go_enter Tryz.func86, Tryz.ntmps86
  go_wp2_with fail
  rw [← HV.out]
  go_region_held3 (fun u => Gr V u ∧ u.cell? ⟨w.heap.size, 0, none⟩ = some (.string f.name) ∧ u.cell? ⟨w.heap.size, 1, none⟩ = some (.int .i64 f.size) ∧ u.cell? ⟨w.heap.size, 2, none⟩ = some (.int .i64 f.count) ∧ u.cell? ⟨w.heap.size, 3, none⟩ = some (.int .u32 f.sum)) (first | exact VS.out _ gVd | exact VS.out _ (by assumption) | assumption | go_keep)
    ((first
      | (go_at_call 114; (with_reducible refine (M1.out _ (by assumption)).mono ?_); rintro e t2 ⟨rfl, hg, hst⟩)
      | (go_at_call 114; (with_reducible refine (M2.out _ (by assumption)).mono ?_); rintro e t2 ⟨rfl, hg, hst⟩)
      | (go_at_call 114; (with_reducible refine (M3.out _ (by assumption)).mono ?_); rintro e t2 ⟨rfl, hg, hst⟩)
      | (go_at_call 114; (with_reducible refine (M4.out _ (by assumption)).mono ?_); rintro e t2 ⟨rfl, hg, hst⟩)))
  go_wp2_with fail
  go_ret
  exact ⟨ret_s EALL.out, GV.out.trans hg⟩
theorem put19_no (m : Mn) {a : Option Addr} {n c : Nat} (w : World) (h : LiesFl w (.slice a n c) m.files) (hl : m.files.length ≤ maxLen) (hK : ∀ f ∈ m.files, flK f) (hm : mnB m = false) :
    Calls Tryz.prog 54 #[.agg #[.int .i64 m.stage, .int .i64 m.pass, .slice a n c]] w fun e w' => e = .returned (.tuple #[.string ⟨#[]⟩, .bool false]) ∧ Gr w w' := by
  obtain ⟨st, ps, l⟩ := m
  have g0 := gr19 w (.cells #[.int .i64 st, .int .i64 ps, .slice a n c] 27)
  have RT := Lib.hid (mright_c st ps a n c l _ (h.gr g0) hl hK)
  rw [hm] at RT
  have G0 := Lib.hid g0
  clear h hl hK hm g0
  go_enter Tryz.func54, Tryz.ntmps54
  go_wp2_with fail
  refine RT.out.mono ?_; rintro e u ⟨rfl, g⟩
  go_wp2_with fail
  go_ret2
  exact ⟨rfl, G0.out.trans g⟩
set_option maxHeartbeats 8000000 in
theorem put19_yes (m : Mn) {a : Option Addr} {n c : Nat} (w : World) (h : LiesFl w (.slice a n c) m.files) (hK : ∀ f ∈ m.files, flK f) (hm : mnB m = true) :
    Calls Tryz.prog 54 #[.agg #[.int .i64 m.stage, .int .i64 m.pass, .slice a n c]] w fun e w' => e = .returned (.tuple #[.string (mnS m), .bool true]) ∧ Gr w w' := by
  have hn : n = m.files.length := by
    obtain ⟨a', c', e, hc, _⟩ := h
    simp only [Value.slice.injEq] at e
    exact e.2.1
  subst hn
  have hb := hm
  unfold mnB at hb
  simp only [Bool.and_eq_true, decide_eq_true_eq] at hb
  obtain ⟨⟨_, _, a5⟩, hnew⟩ := hb
  have hfb := newB_all hnew
  have hf24 : ∀ f ∈ m.files, f.name.size ≤ 24 := fun f hf => by
    have := hfb f hf
    unfold flB rightB at this
    simp only [Bool.and_eq_true, decide_eq_true_eq] at this
    have e : f.name.data.toList.length = f.name.size := rfl
    omega
  obtain ⟨W, hW⟩ : ∃ W, W = w.alloc (.cells #[.int .i64 m.stage, .int .i64 m.pass, .slice a m.files.length c] 27) := ⟨_, rfl⟩
  have gW : Gr w W := by rw [hW]; exact gr19 _ _
  have hz : W.heap.size = w.heap.size + 1 := by rw [hW]; simp
  have yA : W.heap[w.heap.size]? = some (.cells #[.int .i64 m.stage, .int .i64 m.pass, .slice a m.files.length c] 27 (0, 0)) := by rw [hW]; exact heap_alloc_new w _
  have S0 : ∀ u, Gr W u → u.cell? ⟨w.heap.size, 0, none⟩ = some (.int .i64 m.stage) ∧ u.cell? ⟨w.heap.size, 1, none⟩ = some (.int .i64 m.pass) ∧ u.cell? ⟨w.heap.size, 2, none⟩ = some (.slice a m.files.length c) := fun u g => by
    have y := (g.block w.heap.size (by omega)).trans yA
    exact ⟨by rw [cells_at y]; rfl, by rw [cells_at y]; rfl, by rw [cells_at y]; rfl⟩
  have RT := Lib.hid (mright_c m.stage m.pass a m.files.length c m.files W (h.gr gW) (by unfold maxLen; omega) hK)
  rw [show mnB ⟨m.stage, m.pass, m.files⟩ = true from hm] at RT
  have HD := Lib.hid (fun u => head19_c m (.slice a m.files.length c) rfl hm u)
  have K := Lib.hid (show LiesFl w (.slice a m.files.length c) m.files ∧ (∀ f ∈ m.files, flK f) ∧ (∀ f ∈ m.files, flB f = true) ∧ (∀ f ∈ m.files, f.name.size ≤ 24) ∧ Gr w W ∧ m.files.length ≤ 16 ∧ W.heap.size = w.heap.size + 1 from ⟨h, hK, hfb, hf24, gW, a5, hz⟩)
  have KS := Lib.hid S0
  have HW := Lib.hid hW
  clear h hK hm a5 hnew hfb hf24 gW hz yA S0 hW
  go_enter Tryz.func54, Tryz.ntmps54
  go_wp2_with fail
  rw [← HW.out]
  refine RT.out.mono ?_; rintro e u ⟨rfl, g⟩
  obtain ⟨d0, d1, d2⟩ := KS.out u g
  clear RT
  go_wp2_with fail
  refine (HD.out _).mono ?_; rintro e u2 ⟨rfl, g2⟩
  have G2 := g.trans g2
  obtain ⟨e0, e1, e2⟩ := KS.out u2 G2
  have ST := Lib.hid (show PtAt m W (.string (bs (hdL m))) (.int .i64 0) u2 from ⟨0, Nat.zero_le _, rfl, by simp, G2⟩)
  clear HD d0 d1 d2 g g2 G2
  go_wp2_with fail
  go_loopw [4, 15] (fun vs vi wr => PtAt m W vs vi wr) (fun _ vi _ => m.files.length - (intOf vi).toNat)
  case atStart => exact ST.out
  case round =>
    clear ST e0 e1 e2
    obtain ⟨i, hi1, rfl, rfl, g1⟩ := hrel
    have GWW := K.out.2.2.2.2.1.trans g1
    have hml := K.out.2.2.2.2.2.1
    have hfl := flatl_le (l := m.files.take i) (fun f hf => K.out.2.2.2.1 f (List.mem_of_mem_take hf))
    rw [List.length_take] at hfl
    have hsz : (bs (hdL m ++ ((m.files.take i).map flL).flatten)).size ≤ 700 := by rw [bs_size, List.length_append, hd_length]; omega
    by_cases hlt : i < m.files.length
    · obtain ⟨_, hc, b, o, rfl, hb, ⟨k0, k1, k2, k3⟩⟩ := fl_get (K.out.1.gr GWW) hlt
      have q1 : (i : Int) < (m.files.length : Int) := by omega
      have hmem := List.getElem_mem hlt
      have hKf := K.out.2.1 _ hmem
      have hfb := K.out.2.2.1 _ hmem
      have hf24 := K.out.2.2.2.1 _ hmem
      have hstep := bytes_step hlt
      obtain ⟨f, hf⟩ : ∃ f, m.files[i] = f := ⟨_, rfl⟩
      rw [hf] at k0 k1 k2 k3 hKf hfb hf24 hstep
      have EN := Lib.hid (fun u => entry19_c f hf24 hKf hfb u)
      obtain ⟨s0, hs0⟩ : ∃ s0, bs (hdL m ++ ((m.files.take i).map flL).flatten) = s0 := ⟨_, rfl⟩
      rw [hs0] at hsz ⊢
      obtain ⟨x, hx⟩ : ∃ x, bs (flL f) = x := ⟨_, rfl⟩
      rw [hx] at EN
      have hxs : x.size = 14 + f.name.size := by rw [← hx, bs_size, flL_length]
      have EA := Lib.hid (show s0 ++ x = bs (hdL m ++ ((m.files.take (i + 1)).map flL).flatten) by rw [← hs0, ← hx, hstep, bs_app, List.append_assoc])
      have cc : (s0.size : Int) + x.size ≤ 9223372036854775807 := by omega
      have G1 := Lib.hid (g1.trans (gr19 wr (.cells #[.string f.name, .int .i64 f.size, .int .i64 f.count, .int .u32 f.sum] 48)))
      have hmI : (m.files.length : Int) ≤ 9223372036854775807 := by omega
      clear hfl hstep hf hKf hfb hf24 hsz hs0 hx hxs hmem hml GWW g1
      go_wp2_with fail
      refine (EN.out _).mono ?_; rintro e u3 ⟨rfl, g3⟩
      have NX := Lib.hid (show PtAt m W (.string (s0 ++ x)) (.int .i64 ((i : Int) + 1)) u3 from ⟨i + 1, by omega, rfl, by rw [EA.out], G1.out.trans g3⟩)
      clear g3 k0 k1 k2 k3
      go_wp2_with fail
      go_roundw
      case rel => exact NX.out
      case measure => simp [intOf]; omega
    · have hie : i = m.files.length := by omega
      have q1 : ¬ (i : Int) < (m.files.length : Int) := by omega
      have e1 : bs (hdL m ++ ((m.files.take i).map flL).flatten) = bs (mnL m) := by rw [hie, List.take_length, hd_all]
      rw [e1] at hsz ⊢
      have CL := Lib.hid (close_c (bs (mnL m)) (by omega) wr)
      have G := Lib.hid GWW
      clear hfl hsz e1 hie GWW hml
      go_wp2_with fail
      refine CL.out.mono ?_; rintro e u3 ⟨rfl, g3⟩
      go_wp2_with fail
      go_ret2
      exact ⟨rfl, G.out.trans g3⟩
end Go.Proofs.YtignfbdgpgidpaaGreatDoor
