/- In one text: RecRlay, Must6, RdAwake, RecBlocks. -/
import Derived.Test.YtojlceoeacebmaaP19
import Derived.Test.YtojlceoeacebmaaP18
import Derived.Test.YtojlceoeacebmaaP07
/- The contract of the document's own Lay. -/
namespace Go.Proofs.Ytojlceoeacebmaa
open Go.RowKit CrcPlain OctPlain FramePlain RecPlain
set_option linter.unusedVariables false
set_option linter.unusedSimpArgs false
set_option maxRecDepth 20000
theorem all_none (a : Option Addr) (c : Nat) (size : Int) (w : World) :
    Calls Try.prog 22 #[.int .i64 size, .slice a 0 c] w fun e w' => e = .returned (.bool true) ∧ w = w' := by
  go_enter Try.func22, Try.ntmps22
  go_wp2_with fail
  go_rounds 1
  go_ret
  exact ⟨rfl, rfl⟩
theorem rall_c {w : World} {v : Value} {l : List ByteArray} (h : Lies w v l) (size : Int) (hk : I64 size) (hl : l.length ≤ 3000) :
    Calls Try.prog 22 #[.int .i64 size, v] w fun e w' => e = .returned (.bool (allB size l)) ∧ w = w' := by
  obtain ⟨a, c, rfl, hc, h⟩ := h
  rcases h with rfl | ⟨b, off, rfl, hr⟩
  · exact all_none a c size w
  · exact all_c b off c l size hk hl w hr
theorem mid_run (b off n c i e : Nat) (h1 : 1 ≤ e) (h2 : i + e ≤ n) (h3 : n ≤ c) (w : World) :
    (Instr.slice 22 (.slice (some ⟨b, off, none⟩) n c) (some (.int .i64 (i : Int))) (some (.int .i64 ((i : Int) + (e : Int)))) none).run Try.prog w = .ok (.slice (some ⟨b, off + i, none⟩) e (c - i)) w := by
  have hne : c ≠ i := by omega
  have k1 : (i : Int) + (e : Int) ≤ (c : Int) := by omega
  have k2 : (i : Int) ≤ (i : Int) + (e : Int) := by omega
  have k3 : ((i : Int) + (e : Int)).toNat = i + e := by omega
  have k4 : (0 : Int) ≤ (i : Int) + (e : Int) := by omega
  simp [Instr.slice, Instr.sliceBounds, run_underlying Try.underlying22, run_underlying Try.underlying9, go_sem, sliced, hne, k1, k2, k3, k4, addr_add, show Try.prog.cellsOf 9 = 1 by kernel_rfl]
theorem four_liesC {w W : World} {L : List ByteArray} {b off c e : Nat} (hr : SRow w b off L) (g : Gr w W) {j : Nat} (he : e = min 4 (L.length - 4 * j)) (hj : 4 * j < L.length) (hc : e ≤ c) : Lies W (.slice (some ⟨b, off + 4 * j, none⟩) e c) (four L j) := by
  obtain ⟨a', c', h1, h2, h3⟩ := four_lies (.inr hr) g hj
  unfold fourV at h1
  have hl := four_length L j
  rw [← he] at hl
  injection h1 with e1 e2 e3
  subst e1
  exact ⟨_, c, by rw [hl], by omega, h3⟩
def RlayAt (size : Int) (L : List ByteArray) (n : Nat) (w : World) (s i : Value) (wr : World) : Prop :=
  ∃ k : Nat, 4 * k ≤ n + 3 ∧ i = .int .i64 ((4 * k : Nat) : Int) ∧ s = .string (bs ((headS size).data.toList ++ blks (ups L k))) ∧ Below w.heap.size w wr
theorem ups_bound {size : Int} {L : List ByteArray} (hB : layB size L = true) {k : Nat} (hk : k ≤ cnt4 L) : (bs ((headS size).data.toList ++ blks (ups L k))).size ≤ 11 + 261 * k := by
  rw [bs_size]
  have := lay_len (size := size) (L := L) (pre := List.range k) (N := k) (fun j hj => four_blk hB (by have := List.mem_range.1 hj; omega)) (by rw [List.length_range]; omega)
  exact this
set_option maxHeartbeats 4000000 in
theorem rlay_c {w : World} {v : Value} {L : List ByteArray} (h : Lies w v L) (size : Int) (hk : I64 size) (hl : L.length ≤ 3000) (hz : ∀ s ∈ L, s.size ≤ 1000) :
    Calls Try.prog 8 #[.int .i64 size, v] w fun e w' => e = .returned (.tuple #[.string (layR size L), .bool (layB size L)]) ∧ Gr w w' := by
  have P := fun w => rputhead_c size hk w
  cases hs : sizeB size
  · have hB : layB size L = false := by unfold layB; rw [hs]; rfl
    rw [hs, headR_no hs] at P
    have HB := Lib.hid hB
    have HR := Lib.hid (layR_no hB)
    obtain ⟨a, c, rfl, _⟩ := h
    clear hs hB
    go_enter Try.func8, Try.ntmps8
    go_wp2_with fail
    refine (P _).mono ?_; rintro e u ⟨rfl, g⟩
    go_wp2_with fail
    go_ret2
    exact ⟨ret_sb HR.out.symm HB.out.symm, g⟩
  · rw [hs, headR_yes hs] at P
    cases ha : allB size L
    · have hB : layB size L = false := by unfold layB; rw [ha, Bool.and_false]
      have HB := Lib.hid hB
      have HR := Lib.hid (layR_no hB)
      have A := fun (u : World) (g : Gr w u) => rall_c (h.gr g) size hk hl
      rw [ha] at A
      have AA := Lib.hid A
      obtain ⟨a, c, rfl, _⟩ := h
      obtain ⟨hd, hhd⟩ : ∃ hd, hd = headS size := ⟨_, rfl⟩
      rw [← hhd] at P
      clear hs hB ha hhd A
      go_enter Try.func8, Try.ntmps8
      go_wp2_with fail
      refine (P _).mono ?_; rintro e u ⟨rfl, g⟩
      go_wp2_with fail
      refine (AA.out _ g).mono ?_; rintro e u2 ⟨rfl, rfl⟩
      go_wp2_with fail
      go_ret2
      exact ⟨ret_sb HR.out.symm HB.out.symm, g⟩
    · have hB : layB size L = true := by unfold layB; rw [ha, hs]; rfl
      have HB := Lib.hid hB
      have A := fun (u : World) (g : Gr w u) => rall_c (h.gr g) size hk hl
      rw [ha] at A
      have AA := Lib.hid A
      have HL := Lib.hid h
      obtain ⟨a, c, rfl, hc, h⟩ := h
      obtain ⟨n, hn⟩ : ∃ n, L.length = n := ⟨_, rfl⟩
      have HN := Lib.hid hn
      have H0 : 1 ≤ n → ∃ b off, a = some ⟨b, off, none⟩ ∧ SRow w b off L := fun h1 => h.elim (fun h0 => by rw [h0] at hn; simp at hn; omega) id
      have H := Lib.hid H0
      rw [hn] at hl hc HL AA ⊢
      have HZ := Lib.hid hz
      obtain ⟨hd, hhd⟩ : ∃ hd, hd = headS size := ⟨_, rfl⟩
      have hd11 : hd.size = 11 := by rw [hhd, headS_size]
      rw [← hhd] at P
      have HD := Lib.hid hhd
      clear hs hB ha hhd A hn h H0 hz
      go_enter Try.func8, Try.ntmps8
      go_wp2_with fail
      refine (P _).mono ?_; rintro e u ⟨rfl, g⟩
      go_wp2_with fail
      refine (AA.out _ g).mono ?_; rintro e u2 ⟨rfl, rfl⟩
      go_wp2_with fail
      go_loopw [6, 8] (fun s i wr => RlayAt size L n w s i wr) (fun _ i _ => n + 3 - (intOf i).toNat)
      case atStart => exact ⟨0, by omega, rfl, by rw [← HD.out]; simp [ups, blks_nil, bs_toList], g⟩
      case round =>
        obtain ⟨k, hk4, rfl, rfl, hb⟩ := hrel
        obtain ⟨i, hi⟩ : ∃ i, i = 4 * k := ⟨_, rfl⟩
        rw [← hi] at hk4 ⊢
        have HI := Lib.hid hi
        by_cases hlt : i < n
        · obtain ⟨b, off, rfl, hr⟩ := H.out (by omega)
          obtain ⟨e, he⟩ : ∃ e, e = min 4 (n - i) := ⟨_, rfl⟩
          have hmr := mid_run b off n c i e (by omega) (by omega) hc
          have hli := four_liesC hr (Gr.of hb) (c := c - i) (e := e) (j := k) (by have := HN.out; omega) (by have := HN.out; omega) (by omega)
          rw [← hi] at hli
          have hbk := four_blk HB.out (show k < cnt4 L by unfold cnt4; rw [HN.out]; omega)
          have F := rfput_c hli size hk (by have := four_le L k; omega)
          rw [hbk, blkS_yes hbk] at F
          have hmin : min ((i : Int) + 4) (n : Int) = (i : Int) + (e : Int) := by omega
          have hbd := ups_bound HB.out (show k ≤ cnt4 L by unfold cnt4; rw [HN.out]; omega)
          have hbz := blk_le hbk
          have hnext : bs ((headS size).data.toList ++ blks (ups L k)) ++ cl (blk (four L k)) = bs ((headS size).data.toList ++ blks (ups L (k + 1))) := by
            apply ext_toList
            rw [app_data, bs_data, bs_data, ups_succ, blks_app, List.append_assoc]
            simp [blks]
          have HX := Lib.hid hnext
          have HE := Lib.hid he
          generalize bs ((headS size).data.toList ++ blks (ups L k)) = S at hbd HX ⊢
          generalize cl (blk (four L k)) = B at F hbz HX
          have hi2 : (i : Int) ≤ 3010 := by omega
          have hS2 : (S.size : Int) ≤ 200000 := by omega
          have hB2 : (B.size : Int) ≤ 261 := by omega
          clear hi he hr hli hbk hnext hbd hbz hl hk4
          go_wp2_with fail
          refine F.mono ?_; rintro e2 u3 ⟨rfl, g3⟩
          go_wp2_with fail
          refine ⟨⟨k + 1, by have := HI.out; omega, by have := HI.out; congr 1; omega, by rw [HX.out], (Gr.of hb).trans g3⟩, ?_⟩
          simp [intOf]; omega
        · have hkc : k = cnt4 L := by unfold cnt4; rw [HN.out]; omega
          have hbd := ups_bound HB.out (show k ≤ cnt4 L by omega)
          have SC := rsum_c (HL.out.gr (Gr.of hb)) (by have := HN.out; omega) HZ.out
          have hpb := peB_len (show L.length ≤ 1000000 by have := HN.out; omega)
          have PE := fun w => rfputend_c (L.length : Int) (by have := HN.out; unfold I64; omega) (sumN L) (sumN_lt L) w
          rw [hpb, peS_yes hpb, Int.toNat_natCast] at PE
          have hze : (cl (endS L.length (sumN L))).size = 17 := by rw [cl_size, endS_size]
          have hfin : bs ((headS size).data.toList ++ blks (ups L k)) ++ cl (endS L.length (sumN L)) = layR size L := by
            rw [layR_yes HB.out, hkc]
            apply ext_toList
            rw [app_data, bs_data, bs_data]
            unfold layL endL
            rw [List.append_assoc]
          have HF := Lib.hid hfin
          generalize bs ((headS size).data.toList ++ blks (ups L k)) = S at hbd HF ⊢
          generalize cl (endS L.length (sumN L)) = E at PE hze HF
          have hS2 : (S.size : Int) ≤ 200000 := by omega
          have hE2 : (E.size : Int) ≤ 17 := by omega
          have hi2 : ¬ (i : Int) < (n : Int) := by omega
          clear hi hkc hbd hpb hfin hze hl hk4
          go_wp2_with fail
          refine SC.mono ?_; rintro e2 u3 ⟨rfl, g3⟩
          go_wp2_with fail
          refine (PE _).mono ?_; rintro e2 u4 ⟨rfl, g4⟩
          go_wp2_with fail
          go_ret2
          exact ⟨ret_sb HF.out HB.out.symm, ((Gr.of hb).trans g3).trans g4⟩
end Go.Proofs.Ytojlceoeacebmaa
/- The document's file of records, that is there. -/
namespace Go.Proofs.Ytojlceoeacebmaa
open Go.RowKit CrcPlain OctPlain FramePlain RecPlain
set_option linter.unusedVariables false
set_option linter.unusedSimpArgs false
set_option maxRecDepth 20000
theorem must6_c {w : World} {v : Value} {L : List ByteArray} (h : Lies w v L) (size : Int) (hk : I64 size) (hl : L.length ≤ 3000) (hz : ∀ s ∈ L, s.size ≤ 1000) :
    Calls Try.prog 18 #[.int .i64 size, v] w fun e w' => e = .returned (.string (layR size L)) ∧ Gr w w' := by
  have C := Lib.hid (rlay_c h size hk hl hz)
  clear h
  go_enter Try.func18, Try.ntmps18
  go_wp2_with fail
  refine C.out.mono ?_; rintro e u ⟨rfl, g⟩
  go_wp2_with fail
  go_ret
  exact ⟨rfl, g⟩
end Go.Proofs.Ytojlceoeacebmaa
/- The chapter's example of the reader; readers that nobody made. -/
namespace Go.Proofs.Ytojlceoeacebmaa
open Go.RowKit FsPlain CrcPlain OctPlain FramePlain RecPlain RdPlain
set_option linter.unusedVariables false
set_option linter.unusedSimpArgs false
set_option maxRecDepth 20000
theorem stA_ok {r : Int} {S : ByteArray} (h0 : 0 ≤ r) (h1 : r ≤ 16777216) (hS : (S.size : Int) ≤ r) : (stA r S).ok := by
  refine ⟨h0, h1, by show (0 : Int) ≤ 2; decide, by show (-1 : Int) ≤ -1; decide, by show (-1 : Int) ≤ _; omega, ?_, ?_, ?_, by show 1 ≤ 200; decide, by simp [stA]⟩
  · show ((S.data.toList.length + 0 : Nat) : Int) ≤ r
    rw [data_length]; simpa using hS
  · intro f hf; rw [List.mem_singleton.1 hf]; exact Nat.zero_le _
  · intro f hf; rw [List.mem_singleton.1 hf]; show 1 ≤ 24; decide
def nmB : ByteArray := ⟨#[98]⟩
def e9S : ByteArray := layR 1 [nmA, nmB]
def e9R : St × Bu × Int × Nat := openN (stA 100 e9S) ⟨4, 0, 0⟩ nmA 1
def e9m1 : N3 := ⟨e9R.1, e9R.2.1, newRs nmA 1 e9R.2.2.2⟩
def e9m2 : N3 := (nextN e9m1).1
def e9m3 : N3 := (nextN e9m2).1
def e9m4 : N3 := (nextN e9m3).1
theorem e9_s : e9S.size = 35 := by kernel_rfl
theorem e9_0 : e9R.2.2.1 = 0 := by kernel_rfl
theorem e9_1 : (nextN e9m1).2 = (nmA, true, 0) := by kernel_rfl
theorem e9_2 : (nextN e9m2).2 = (nmB, true, 0) := by kernel_rfl
theorem e9_3 : (nextN e9m3).2 = (⟨#[]⟩, false, 0) := by kernel_rfl
theorem e9_c : e9m4.x.ec = 2 := by kernel_rfl
theorem e9_w : e9m4.x.whole = true := by kernel_rfl
theorem e9_p1 : PlayN e9m1 0 := by
  have h := st_size 100 e9S (-1) (by kernel_rfl)
  exact play_open (r := 100) (by decide) (S := e9S) (by rw [e9_s]; decide) (by decide) (by rw [e9_s]; decide) (k := -1) (mm := 4) (size := 1) (by decide) (by decide) (by decide) (show (armed (stA 100 e9S) (-1)).ok from stA_ok (by decide) (by decide) (by rw [e9_s]; decide)) e9R rfl e9_0
theorem e9_p2 : PlayN e9m2 1 := e9_p1.next (by rw [e9_1])
theorem e9_p3 : PlayN e9m3 2 := e9_p2.next (by rw [e9_2])
theorem e9_i4 : e9m4.inv := inv_nextN e9_p3.inv e9_p3.ok
theorem e9_next {m : N3} {i : Nat} {a : Ans} (hp : PlayN m i) (hi : i ≤ 3) (ha : (nextN m).2 = a) (x D P : Nat) (w : World) (B : Nat → Prop) (h : RP3 x D P m w B) :
    Calls Try.prog 13 #[.pointer (some ⟨x, 0, none⟩)] w (Does w B (RP3 x D P (nextN m).1) (ansV a)) := by
  rw [← ha]
  have h1 := hp.told
  have h2 := hp.calls
  exact rp_next x D P m hp.ok hp.inv (by omega) (by omega) w B h
set_option maxRecDepth 100000 in
set_option maxHeartbeats 4000000 in
theorem awake9_c (w : World) : Calls Try.prog 5 #[] w fun e w' => e = .returned (.bool true) ∧ Gr w w' := by
  have C1 := Lib.hid (new_c 100 (by decide) (by decide))
  have C2 := Lib.hid (fun u => bu_new 4 u (by decide) (by decide))
  have CC0 : ∀ p u B, DiskA p (fresh 100) u B → Calls Try.prog 10 #[.pointer (some ⟨p, 0, none⟩), .string nmA] u (Does u B (DiskA p (stC 100)) (.int .i64 0)) := by
    intro p u B h
    have := d_create p (fresh 100) nmA (by decide) nmA_right (by decide) u B h
    rw [st_create] at this
    exact this
  have CA0 : ∀ p u B, DiskA p (stC 100) u B → Calls Try.prog 11 #[.pointer (some ⟨p, 0, none⟩), .string nmA, .string e9S] u (Does u B (DiskA p (stA 100 e9S)) (.int .i64 0)) := by
    intro p u B h
    have := d_append p (stC 100) nmA e9S (by decide) nmA_right (by decide) (by rw [e9_s]; decide) u B h
    rw [st_append 100 e9S (by rw [e9_s]; decide)] at this
    exact this
  have CO0 : ∀ p pb u B, stars [DiskA p (stA 100 e9S), BuA pb ⟨4, 0, 0⟩] u B → Calls Try.prog 12 #[.pointer (some ⟨p, 0, none⟩), .pointer (some ⟨pb, 0, none⟩), .string nmA, .int .i64 1] u fun e w' => ∃ x, Does u B (RP3 x p pb e9m1) (.tuple #[.pointer (some ⟨x, 0, none⟩), .int .i64 0]) e w' := by
    intro p pb u B h
    refine (rp_open p pb (stA 100 e9S) ⟨4, 0, 0⟩ nmA 1 (by unfold I64; omega) (stA_ok (by decide) (by decide) (by rw [e9_s]; decide)) nmA_size nmA_right (by decide) u B h).mono ?_
    rintro e w' (⟨_, x, hd⟩ | ⟨h0, _⟩)
    · exact ⟨x, hd⟩
    · exact absurd e9_0 h0
  have CN1 := Lib.hid (e9_next e9_p1 (by decide) e9_1)
  have CN2 := Lib.hid (e9_next e9_p2 (by decide) e9_2)
  have CN3 := Lib.hid (e9_next e9_p3 (by decide) e9_3)
  have CI0 : ∀ x p pb u B, RP3 x p pb e9m4 u B → Calls Try.prog 16 #[.pointer (some ⟨x, 0, none⟩)] u fun e w' => e = .returned (.tuple #[.agg #[.int .i64 2, .int .u32 e9m4.x.em], .bool true]) ∧ Gr u w' := by
    intro x p pb u B h
    have := rp_info x p pb e9m4 e9_i4 u B h
    rw [e9_c, e9_w] at this
    exact this
  have CC := Lib.hid CC0
  have CA := Lib.hid CA0
  have CO := Lib.hid CO0
  have CI := Lib.hid CI0
  have CM0 : ∀ u, Calls Try.prog 18 #[.int .i64 1, .slice (some ⟨u.heap.size, 0, none⟩) 2 2] (u.alloc (.cells #[.string nmA, .string nmB] 9)) fun e w' => e = .returned (.string e9S) ∧ Gr u w' := by
    intro u
    have hl : Lies (u.alloc (.cells #[.string nmA, .string nmB] 9)) (.slice (some ⟨u.heap.size, 0, none⟩) 2 2) [nmA, nmB] := by
      refine ⟨_, 2, rfl, Nat.le_refl _, .inr ⟨u.heap.size, 0, rfl, by rw [World.size_alloc]; omega, fun j x hj => ?_⟩⟩
      match j, hj with
      | 0, hj => rw [World.cell?_alloc_mark]; simp at hj; subst hj; rfl
      | 1, hj => rw [World.cell?_alloc_mark]; simp at hj; subst hj; rfl
    refine (must6_c hl 1 (by unfold I64; omega) (by decide) (fun s hs => by rcases List.mem_cons.1 hs with rfl | hs; decide; rw [List.mem_singleton.1 hs]; decide)).mono ?_
    rintro e w' ⟨he, g⟩
    exact ⟨he, Gr.trans (b := u.alloc (.cells #[.string nmA, .string nmB] 9)) ((Gr.refl u).alloc (Nat.le_refl _) _) g⟩
  have CM := Lib.hid CM0
  obtain ⟨S, hS⟩ : ∃ S, S = e9S := ⟨_, rfl⟩
  obtain ⟨em, hem⟩ : ∃ em, em = e9m4.x.em := ⟨_, rfl⟩
  rw [← hS] at CM CA CO
  rw [← hem] at CI
  clear CC0 CA0 CO0 CI0 CM0 hS hem
  go_enter Try.func5, Try.ntmps5
  go_wp2_with fail
  refine (C1.out _).mono ?_; rintro e u1 hb
  obtain ⟨p, B1, rfl, hd1, g1, hn1⟩ := hb
  have CC1 := Lib.hid (CC.out p u1 B1 hd1)
  have N1 := Lib.hid (show Nx (fun _ => False) w B1 u1 from ⟨Only.ofGr g1, fun b hb => .inr (hn1 b hb)⟩)
  clear hd1 g1 hn1
  go_wp2_with fail
  change Calls _ _ #[_, .string nmA] _ _
  refine CC1.out.mono ?_; rintro e u2 ⟨rfl, E2, q2, n2⟩
  have Q2 := Lib.hid q2
  have N2 := Lib.hid (N1.out.trans n2)
  clear q2 n2 CC1
  go_wp2_with fail
  change Calls _ _ #[_, .slice (some ⟨u2.heap.size, 0, none⟩) 2 2] (u2.alloc (.cells #[.string nmA, .string nmB] 9)) _
  refine (CM.out u2).mono ?_; rintro e u3 ⟨rfl, g3⟩
  have CA1 := Lib.hid (CA.out p u3 E2 (star_gr (fr_disk _ _) Q2.out g3))
  have N3 := Lib.hid (N2.out.trans (Nx.gr g3))
  clear g3
  go_wp2_with fail
  change Calls _ _ #[_, .string nmA, _] _ _
  refine CA1.out.mono ?_; rintro e u4 ⟨rfl, E4, q4, n4⟩
  have Q4 := Lib.hid q4
  have N4 := Lib.hid (N3.out.trans n4)
  clear q4 n4 CA1
  go_wp2_with fail
  refine (C2.out _).mono ?_; rintro e u5 ⟨rfl, hd5, g5⟩
  obtain ⟨E5, q5, n5⟩ := part_new (P := BuA u4.heap.size ⟨4, 0, 0⟩) (L := [DiskA p (stA 100 S)]) ⟨fr_disk _ _, trivial⟩ (show stars [DiskA p (stA 100 S)] u4 E4 from ⟨E4, fun _ => False, Q4.out, (fun _ h => h), (fun _ _ h => h), fun b => (or_false _).symm ▸ Iff.rfl⟩) g5 hd5 (fun b hb => by omega)
  obtain ⟨pb, hpb⟩ : ∃ pb, pb = u4.heap.size := ⟨_, rfl⟩
  rw [← hpb] at q5 ⊢
  have CO1 := Lib.hid (CO.out p pb u5 E5 (stars_perm (List.Perm.swap _ _ _) q5))
  have N5 := Lib.hid (N4.out.trans n5)
  clear hd5 g5 q5 n5 hpb
  go_wp2_with fail
  change Calls _ _ #[_, _, .string nmA, _] _ _
  refine CO1.out.mono ?_; rintro e u6 ⟨x, rfl, E6, q6, n6⟩
  have C6 := Lib.hid (show Calls _ _ _ _ (Does u6 E6 (RP3 x p pb e9m2) (ansV (⟨#[97]⟩, true, 0))) from CN1.out x p pb u6 E6 q6)
  have N6 := Lib.hid (N5.out.trans n6)
  clear q6 n6 CO1
  unfold ansV at C6
  go_wp2_with fail
  refine C6.out.mono ?_; rintro e u7 ⟨rfl, E7, q7, n7⟩
  have C7 := Lib.hid (show Calls _ _ _ _ (Does u7 E7 (RP3 x p pb e9m3) (ansV (⟨#[98]⟩, true, 0))) from CN2.out x p pb u7 E7 q7)
  have N7 := Lib.hid (N6.out.trans n7)
  clear q7 n7 C6
  unfold ansV at C7
  go_wp2_with fail
  refine C7.out.mono ?_; rintro e u8 ⟨rfl, E8, q8, n8⟩
  have C8 := Lib.hid (show Calls _ _ _ _ (Does u8 E8 (RP3 x p pb e9m4) (ansV (⟨#[]⟩, false, 0))) from CN3.out x p pb u8 E8 q8)
  have N8 := Lib.hid (N7.out.trans n8)
  clear q8 n8 C7
  unfold ansV at C8
  go_wp2_with fail
  refine C8.out.mono ?_; rintro e u9 ⟨rfl, E9, q9, n9⟩
  have CI1 := Lib.hid (CI.out x p pb u9 E9 q9)
  have G9 := Lib.hid (nx_gr (N8.out.trans n9))
  clear q9 n9 C8
  go_wp2_with fail
  refine CI1.out.mono ?_; rintro e u10 ⟨rfl, g10⟩
  have G10 := Lib.hid (G9.out.trans g10)
  clear g10 CI1
  go_wp2_with fail
  obtain ⟨X, hX⟩ : ∃ X, X = u10.alloc (.cells #[.int .i64 2, .int .u32 em] 35) := ⟨_, rfl⟩
  have gX : Gr u10 X := by rw [hX]; exact (Gr.refl u10).alloc (Nat.le_refl _) _
  have hXl : u10.heap.size < X.heap.size := by rw [hX, World.size_alloc]; omega
  have x0 : X.cell? ⟨u10.heap.size, 0, none⟩ = some (.int .i64 2) := by rw [hX, World.cell?_alloc_mark]; rfl
  obtain ⟨q, hq⟩ : ∃ q, q = u10.heap.size := ⟨_, rfl⟩
  have G11 := Lib.hid (G10.out.trans gX)
  rw [← hX, ← hq]
  rw [← hq] at hXl x0
  clear hX gX hq
  refine (rp_close_nil _).mono ?_; rintro e v1 ⟨rfl, rfl⟩
  go_wp2_with fail
  refine (rp_next_nil _).mono ?_; rintro e v1 ⟨rfl, rfl⟩
  unfold ansV noneA
  go_wp2_with fail
  obtain ⟨Z, hZ⟩ : ∃ Z, Z = X.alloc (.cells #[.pointer none, .string ⟨#[]⟩, .int .i64 0, .int .i64 0, .pointer none, .int .i64 0, .slice none 0 0, .bool false, .int .i64 0, .int .u32 0, .bool false] 54) := ⟨_, rfl⟩
  have gZ : Gr X Z := by rw [hZ]; exact (Gr.refl X).alloc (Nat.le_refl _) _
  have hz0 : Z.cell? ⟨X.heap.size, 0, none⟩ = some (.pointer none) := by rw [hZ, World.cell?_alloc_mark]; rfl
  have hz10 : Z.cell? ⟨X.heap.size, 10, none⟩ = some (.bool false) := by rw [hZ, World.cell?_alloc_mark]; rfl
  have y0 : Z.cell? ⟨q, 0, none⟩ = some (.int .i64 2) := (gZ.cell (p := ⟨q, 0, none⟩) hXl).trans x0
  have CZ := Lib.hid (rp_next_zero X.heap.size Z hz0 hz10)
  have G12 := Lib.hid (G11.out.trans gZ)
  rw [← hZ]
  clear hZ gZ hz0 hz10 x0
  refine CZ.out.mono ?_; rintro e v1 ⟨rfl, rfl⟩
  unfold ansV noneA
  go_wp2_with fail
  refine (rcount_nil _).mono ?_; rintro e v1 ⟨rfl, rfl⟩
  go_wp2_with fail
  go_ret
  exact ⟨rfl, G12.out⟩
end Go.Proofs.Ytojlceoeacebmaa
/- The iterator of a file's blocks; what stands behind a head. -/
namespace Go.Proofs.Ytojlceoeacebmaa
open Go.RowKit Go.Shelf CrcPlain OctPlain FramePlain RecPlain
set_option linter.unusedVariables false
set_option linter.unusedSimpArgs false
set_option maxRecDepth 20000
attribute [local go_sem] Oper.semAt_some
/-- What is handed out at once: a block's records, as a slice that holds them, and what stands behind it. -/
abbrev Piece := Value × List ByteArray × ByteArray
def pcs (pre : List Piece) : List (List ByteArray) := pre.map (·.2.1)
def BlkPr (size : Int) (s : ByteArray) (pre : List Piece) (x : Piece) (W : World) : Prop :=
  Lies W x.1 x.2.1 ∧ blkB size x.2.1 = true ∧ s.data.toList = blks (pcs pre ++ [x.2.1]) ++ x.2.2.data.toList
def BlkKeep (Bs Bz : Nat) (W W' : World) : Prop := W.heap.size ≤ W'.heap.size ∧ W'.heap[Bs]? = W.heap[Bs]? ∧ W'.heap[Bz]? = W.heap[Bz]?
def BlkS (size : Int) (s : ByteArray) (xs : List Piece) : Prop := ∃ r : ByteArray, s.data.toList = blks (pcs xs) ++ r.data.toList ∧ gB size r = false
def BlkAt (size : Int) (s : ByteArray) (Bs Bz : Nat) (J : List Piece → World → Prop) (i : Value) (wr : World) : Prop :=
  ∃ (pre : List Piece) (r : ByteArray), i = .string r ∧ J pre wr ∧ s.data.toList = blks (pcs pre) ++ r.data.toList ∧ r.size ≤ s.size ∧ wr.heap[Bs]? = some (.cells #[.string s] 9 (0, 0)) ∧ wr.heap[Bz]? = some (.cells #[.int .i64 size] 3 (0, 0))
def strLen : Value → Nat
  | .string s => s.size
  | _ => 0
theorem cut_run (s : ByteArray) (n : Nat) (h : n ≤ s.size) (w : World) :
    (Instr.slice 9 (.string s) (some (.int .i64 (n : Int))) none none).run Try.prog w = .ok (.string (s.extract n s.size)) w := by
  rw [run_slice_string_from_if w 9 s .i64 (n : Int) Try.underlying9, if_pos ⟨by omega, by omega⟩, Int.toNat_natCast]
/-- Does s begin with p? -/
def preB (s p : ByteArray) : Bool := decide (p.size ≤ s.size ∧ s.extract 0 p.size = p)
theorem hasprefix_c (s p : ByteArray) (w : World) :
    Calls Try.prog 81 #[.string s, .string p] w fun e w' => e = .returned (.bool (preB s p)) ∧ w = w' := by
  by_cases h : p.size ≤ s.size
  · have hsl := slice_to s p.size h
    have ht : ((s.extract 0 p.size).toList == p.toList) = preB s p := by
      rw [eq_list]; unfold preB
      exact decide_eq_decide.2 ⟨fun h2 => ⟨h, h2⟩, fun h2 => h2.2⟩
    have d1 : (p.size : Int) ≤ (s.size : Int) := by omega
    clear h
    go_enter Try.func81, Try.ntmps81
    go_wp2_with fail
    go_ret
    exact ⟨rfl, rfl⟩
  · have hb : preB s p = false := by unfold preB; rw [decide_eq_false_iff_not]; exact fun h2 => h h2.1
    have HB := Lib.hid hb
    have d1 : ¬ (p.size : Int) ≤ (s.size : Int) := by omega
    clear h hb
    go_enter Try.func81, Try.ntmps81
    go_wp2_with fail
    go_ret
    exact ⟨retb HB.out.symm, rfl⟩
def cutS (s p : ByteArray) : ByteArray := if preB s p = true then s.extract p.size s.size else s
/-- Does s begin with the head of that size? -/
def bhB (size : Int) (s : ByteArray) : Bool := sizeB size && preB s (headS size)
def bhS (size : Int) (s : ByteArray) : ByteArray := if sizeB size = true then cutS s (headS size) else ⟨#[]⟩
end Go.Proofs.Ytojlceoeacebmaa
