/- The contract of the document's own Lay. -/
import Derived.Test.YtckgdnaocmefjaaRecLay
namespace Go.Proofs.Ytckgdnaocmefjaa
open Go.RowKit CrcPlain OctPlain FramePlain RecPlain
set_option linter.unusedVariables false
set_option linter.unusedSimpArgs false
theorem all_none (a : Option Addr) (c : Nat) (size : Int) (w : World) :
    Calls Try.prog 27 #[.int .i64 size, .slice a 0 c] w fun e w' => e = .returned (.bool true) ∧ w = w' := by
  go_enter Try.func27, Try.ntmps27
  go_wp2_with fail
  go_rounds 1
  go_ret
  exact ⟨rfl, rfl⟩
theorem rall_c {w : World} {v : Value} {l : List ByteArray} (h : Lies w v l) (size : Int) (hk : I64 size) (hl : l.length ≤ 1000) :
    Calls Try.prog 27 #[.int .i64 size, v] w fun e w' => e = .returned (.bool (allB size l)) ∧ w = w' := by
  obtain ⟨a, c, rfl, hc, h⟩ := h
  rcases h with rfl | ⟨b, off, rfl, hr⟩
  · exact all_none a c size w
  · exact all_c b off c l size hk hl w hr
theorem mid_run (b off n c i e : Nat) (h1 : 1 ≤ e) (h2 : i + e ≤ n) (h3 : n ≤ c) (w : World) :
    (Instr.slice 22 (.slice (some ⟨b, off, none⟩) n c) (some (.int .i64 (i : Int))) (some (.int .i64 ((i : Int) + (e : Int)))) none).run Try.prog w = .ok (.slice (some ⟨b, off + i, none⟩) e (c - i)) w := by
  have hne : c ≠ i := by omega
  have k1 : (i : Int) + (e : Int) ≤ (c : Int) := by omega
  have k2 : (i : Int) ≤ (i : Int) + (e : Int) := by omega
  have k3 : ((i : Int) + (e : Int)).toNat = i + e := by omega
  have k4 : (0 : Int) ≤ (i : Int) + (e : Int) := by omega
  simp [Instr.slice, Instr.sliceBounds, run_underlying Try.underlying22, run_underlying Try.underlying9, go_sem, sliced, hne, k1, k2, k3, k4, addr_add, show Try.prog.cellsOf 9 = 1 by kernel_rfl]
theorem four_liesC {w W : World} {L : List ByteArray} {b off c e : Nat} (hr : SRow w b off L) (g : Gr w W) {j : Nat} (he : e = min 4 (L.length - 4 * j)) (hj : 4 * j < L.length) (hc : e ≤ c) : Lies W (.slice (some ⟨b, off + 4 * j, none⟩) e c) (four L j) := by
  obtain ⟨a', c', h1, h2, h3⟩ := four_lies (.inr hr) g hj
  unfold fourV at h1
  have hl := four_length L j
  rw [← he] at hl
  injection h1 with e1 e2 e3
  subst e1
  exact ⟨_, c, by rw [hl], by omega, h3⟩
def RlayAt (size : Int) (L : List ByteArray) (n : Nat) (w : World) (s i : Value) (wr : World) : Prop :=
  ∃ k : Nat, 4 * k ≤ n + 3 ∧ i = .int .i64 ((4 * k : Nat) : Int) ∧ s = .string (bs ((headS size).data.toList ++ blks (ups L k))) ∧ Below w.heap.size w wr
theorem ups_bound {size : Int} {L : List ByteArray} (hB : layB size L = true) {k : Nat} (hk : k ≤ cnt4 L) : (bs ((headS size).data.toList ++ blks (ups L k))).size ≤ 11 + 261 * k := by
  rw [bs_size]
  have := lay_len (size := size) (L := L) (pre := List.range k) (N := k) (fun j hj => four_blk hB (by have := List.mem_range.1 hj; omega)) (by rw [List.length_range]; omega)
  exact this
set_option maxHeartbeats 4000000 in
theorem rlay_c {w : World} {v : Value} {L : List ByteArray} (h : Lies w v L) (size : Int) (hk : I64 size) (hl : L.length ≤ 1000) (hz : ∀ s ∈ L, s.size ≤ 1000) :
    Calls Try.prog 9 #[.int .i64 size, v] w fun e w' => e = .returned (.tuple #[.string (layR size L), .bool (layB size L)]) ∧ Gr w w' := by
  have P := fun w => rputhead_c size hk w
  cases hs : sizeB size
  · have hB : layB size L = false := by unfold layB; rw [hs]; rfl
    rw [hs, headR_no hs] at P
    have HB := Lib.hid hB
    have HR := Lib.hid (layR_no hB)
    obtain ⟨a, c, rfl, _⟩ := h
    clear hs hB
    go_enter Try.func9, Try.ntmps9
    go_wp2_with fail
    refine (P _).mono ?_; rintro e u ⟨rfl, g⟩
    go_wp2_with fail
    go_ret2
    exact ⟨ret_sb HR.out.symm HB.out.symm, g⟩
  · rw [hs, headR_yes hs] at P
    cases ha : allB size L
    · have hB : layB size L = false := by unfold layB; rw [ha, Bool.and_false]
      have HB := Lib.hid hB
      have HR := Lib.hid (layR_no hB)
      have A := fun (u : World) (g : Gr w u) => rall_c (h.gr g) size hk hl
      rw [ha] at A
      have AA := Lib.hid A
      obtain ⟨a, c, rfl, _⟩ := h
      obtain ⟨hd, hhd⟩ : ∃ hd, hd = headS size := ⟨_, rfl⟩
      rw [← hhd] at P
      clear hs hB ha hhd A
      go_enter Try.func9, Try.ntmps9
      go_wp2_with fail
      refine (P _).mono ?_; rintro e u ⟨rfl, g⟩
      go_wp2_with fail
      refine (AA.out _ g).mono ?_; rintro e u2 ⟨rfl, rfl⟩
      go_wp2_with fail
      go_ret2
      exact ⟨ret_sb HR.out.symm HB.out.symm, g⟩
    · have hB : layB size L = true := by unfold layB; rw [ha, hs]; rfl
      have HB := Lib.hid hB
      have A := fun (u : World) (g : Gr w u) => rall_c (h.gr g) size hk hl
      rw [ha] at A
      have AA := Lib.hid A
      have HL := Lib.hid h
      obtain ⟨a, c, rfl, hc, h⟩ := h
      obtain ⟨n, hn⟩ : ∃ n, L.length = n := ⟨_, rfl⟩
      have HN := Lib.hid hn
      have H0 : 1 ≤ n → ∃ b off, a = some ⟨b, off, none⟩ ∧ SRow w b off L := fun h1 => h.elim (fun h0 => by rw [h0] at hn; simp at hn; omega) id
      have H := Lib.hid H0
      rw [hn] at hl hc HL AA ⊢
      have HZ := Lib.hid hz
      obtain ⟨hd, hhd⟩ : ∃ hd, hd = headS size := ⟨_, rfl⟩
      have hd11 : hd.size = 11 := by rw [hhd, headS_size]
      rw [← hhd] at P
      have HD := Lib.hid hhd
      clear hs hB ha hhd A hn h H0 hz
      go_enter Try.func9, Try.ntmps9
      go_wp2_with fail
      refine (P _).mono ?_; rintro e u ⟨rfl, g⟩
      go_wp2_with fail
      refine (AA.out _ g).mono ?_; rintro e u2 ⟨rfl, rfl⟩
      go_wp2_with fail
      go_loopw [6, 8] (fun s i wr => RlayAt size L n w s i wr) (fun _ i _ => n + 3 - (intOf i).toNat)
      case atStart => exact ⟨0, by omega, rfl, by rw [← HD.out]; simp [ups, blks_nil, bs_toList], g⟩
      case round =>
        obtain ⟨k, hk4, rfl, rfl, hb⟩ := hrel
        obtain ⟨i, hi⟩ : ∃ i, i = 4 * k := ⟨_, rfl⟩
        rw [← hi] at hk4 ⊢
        have HI := Lib.hid hi
        by_cases hlt : i < n
        · obtain ⟨b, off, rfl, hr⟩ := H.out (by omega)
          obtain ⟨e, he⟩ : ∃ e, e = min 4 (n - i) := ⟨_, rfl⟩
          have hmr := mid_run b off n c i e (by omega) (by omega) hc
          have hli := four_liesC hr (Gr.of hb) (c := c - i) (e := e) (j := k) (by have := HN.out; omega) (by have := HN.out; omega) (by omega)
          rw [← hi] at hli
          have hbk := four_blk HB.out (show k < cnt4 L by unfold cnt4; rw [HN.out]; omega)
          have F := rfput_c hli size hk (by have := four_le L k; omega)
          rw [hbk, blkS_yes hbk] at F
          have hmin : min ((i : Int) + 4) (n : Int) = (i : Int) + (e : Int) := by omega
          have hbd := ups_bound HB.out (show k ≤ cnt4 L by unfold cnt4; rw [HN.out]; omega)
          have hbz := blk_le hbk
          have hnext : bs ((headS size).data.toList ++ blks (ups L k)) ++ cl (blk (four L k)) = bs ((headS size).data.toList ++ blks (ups L (k + 1))) := by
            apply ext_toList
            rw [app_data, bs_data, bs_data, ups_succ, blks_app, List.append_assoc]
            simp [blks]
          have HX := Lib.hid hnext
          have HE := Lib.hid he
          generalize bs ((headS size).data.toList ++ blks (ups L k)) = S at hbd HX ⊢
          generalize cl (blk (four L k)) = B at F hbz HX
          have hi2 : (i : Int) ≤ 1010 := by omega
          have hS2 : (S.size : Int) ≤ 66000 := by omega
          have hB2 : (B.size : Int) ≤ 261 := by omega
          clear hi he hr hli hbk hnext hbd hbz hl hk4
          go_wp2_with fail
          refine F.mono ?_; rintro e2 u3 ⟨rfl, g3⟩
          go_wp2_with fail
          refine ⟨⟨k + 1, by have := HI.out; omega, by have := HI.out; congr 1; omega, by rw [HX.out], (Gr.of hb).trans g3⟩, ?_⟩
          simp [intOf]; omega
        · have hkc : k = cnt4 L := by unfold cnt4; rw [HN.out]; omega
          have hbd := ups_bound HB.out (show k ≤ cnt4 L by omega)
          have SC := rsum_c (HL.out.gr (Gr.of hb)) (by have := HN.out; omega) HZ.out
          have hpb := peB_len (show L.length ≤ 1000000 by have := HN.out; omega)
          have PE := fun w => rfputend_c (L.length : Int) (by have := HN.out; unfold I64; omega) (sumN L) (sumN_lt L) w
          rw [hpb, peS_yes hpb, Int.toNat_natCast] at PE
          have hze : (cl (endS L.length (sumN L))).size = 17 := by rw [cl_size, endS_size]
          have hfin : bs ((headS size).data.toList ++ blks (ups L k)) ++ cl (endS L.length (sumN L)) = layR size L := by
            rw [layR_yes HB.out, hkc]
            apply ext_toList
            rw [app_data, bs_data, bs_data]
            unfold layL endL
            rw [List.append_assoc]
          have HF := Lib.hid hfin
          generalize bs ((headS size).data.toList ++ blks (ups L k)) = S at hbd HF ⊢
          generalize cl (endS L.length (sumN L)) = E at PE hze HF
          have hS2 : (S.size : Int) ≤ 66000 := by omega
          have hE2 : (E.size : Int) ≤ 17 := by omega
          have hi2 : ¬ (i : Int) < (n : Int) := by omega
          clear hi hkc hbd hpb hfin hze hl hk4
          go_wp2_with fail
          refine SC.mono ?_; rintro e2 u3 ⟨rfl, g3⟩
          go_wp2_with fail
          refine (PE _).mono ?_; rintro e2 u4 ⟨rfl, g4⟩
          go_wp2_with fail
          go_ret2
          exact ⟨ret_sb HF.out HB.out.symm, ((Gr.of hb).trans g3).trans g4⟩
end Go.Proofs.Ytckgdnaocmefjaa
