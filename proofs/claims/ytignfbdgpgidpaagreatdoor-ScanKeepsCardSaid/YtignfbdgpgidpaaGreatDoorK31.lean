/- In one text: RecRlay, RecRparse, ScWhole, ScRead, ScRt, RecLen. -/
import Derived.Test.YtignfbdgpgidpaaGreatDoorK30
import Derived.Test.YtignfbdgpgidpaaGreatDoorK26
import Derived.Test.YtignfbdgpgidpaaGreatDoorK09
import Derived.Deep.DeepCutAuto
import Derived.Deep.RegionHeld3
import Derived.Test.YtignfbdgpgidpaaGreatDoorK29
import Derived.Test.YtignfbdgpgidpaaGreatDoorK28
/- The contract of the document's own Lay. -/
namespace Go.Proofs.YtignfbdgpgidpaaGreatDoor
open Go.RowKit CrcPlain OctPlain FramePlain RecPlain
set_option linter.unusedVariables false
set_option linter.unusedSimpArgs false
set_option maxRecDepth 20000
theorem all_none (a : Option Addr) (c : Nat) (size : Int) (w : World) :
    Calls Tryz.prog 72 #[.int .i64 size, .slice a 0 c] w fun e w' => e = .returned (.bool true) ∧ w = w' := by
  go_enter Tryz.func72, Tryz.ntmps72
  go_wp2_with fail
  go_rounds 1
  go_ret
  exact ⟨rfl, rfl⟩
theorem rall_c {w : World} {v : Value} {l : List ByteArray} (h : Lies w v l) (size : Int) (hk : I64 size) (hl : l.length ≤ 3000) :
    Calls Tryz.prog 72 #[.int .i64 size, v] w fun e w' => e = .returned (.bool (allB size l)) ∧ w = w' := by
  obtain ⟨a, c, rfl, hc, h⟩ := h
  rcases h with rfl | ⟨b, off, rfl, hr⟩
  · exact all_none a c size w
  · exact all_c b off c l size hk hl w hr
theorem mid_run (b off n c i e : Nat) (h1 : 1 ≤ e) (h2 : i + e ≤ n) (h3 : n ≤ c) (w : World) :
    (Instr.slice 23 (.slice (some ⟨b, off, none⟩) n c) (some (.int .i64 (i : Int))) (some (.int .i64 ((i : Int) + (e : Int)))) none).run Tryz.prog w = .ok (.slice (some ⟨b, off + i, none⟩) e (c - i)) w := by
  have hne : c ≠ i := by omega
  have k1 : (i : Int) + (e : Int) ≤ (c : Int) := by omega
  have k2 : (i : Int) ≤ (i : Int) + (e : Int) := by omega
  have k3 : ((i : Int) + (e : Int)).toNat = i + e := by omega
  have k4 : (0 : Int) ≤ (i : Int) + (e : Int) := by omega
  simp [Instr.slice, Instr.sliceBounds, run_underlying Tryz.underlying23, run_underlying Tryz.underlying9, go_sem, sliced, hne, k1, k2, k3, k4, addr_add, show Tryz.prog.cellsOf 9 = 1 by kernel_rfl]
theorem four_liesC {w W : World} {L : List ByteArray} {b off c e : Nat} (hr : SRow w b off L) (g : Gr w W) {j : Nat} (he : e = min 4 (L.length - 4 * j)) (hj : 4 * j < L.length) (hc : e ≤ c) : Lies W (.slice (some ⟨b, off + 4 * j, none⟩) e c) (four L j) := by
  obtain ⟨a', c', h1, h2, h3⟩ := four_lies (.inr hr) g hj
  unfold fourV at h1
  have hl := four_length L j
  rw [← he] at hl
  injection h1 with e1 e2 e3
  subst e1
  exact ⟨_, c, by rw [hl], by omega, h3⟩
def RlayAt (size : Int) (L : List ByteArray) (n : Nat) (w : World) (s i : Value) (wr : World) : Prop :=
  ∃ k : Nat, 4 * k ≤ n + 3 ∧ i = .int .i64 ((4 * k : Nat) : Int) ∧ s = .string (bs ((headS size).data.toList ++ blks (ups L k))) ∧ Below w.heap.size w wr
theorem ups_bound {size : Int} {L : List ByteArray} (hB : layB size L = true) {k : Nat} (hk : k ≤ cnt4 L) : (bs ((headS size).data.toList ++ blks (ups L k))).size ≤ 11 + 261 * k := by
  rw [bs_size]
  have := lay_len (size := size) (L := L) (pre := List.range k) (N := k) (fun j hj => four_blk hB (by have := List.mem_range.1 hj; omega)) (by rw [List.length_range]; omega)
  exact this
set_option maxHeartbeats 4000000 in
theorem rlay_c {w : World} {v : Value} {L : List ByteArray} (h : Lies w v L) (size : Int) (hk : I64 size) (hl : L.length ≤ 3000) (hz : ∀ s ∈ L, s.size ≤ 1000) :
    Calls Tryz.prog 36 #[.int .i64 size, v] w fun e w' => e = .returned (.tuple #[.string (layR size L), .bool (layB size L)]) ∧ Gr w w' := by
  have P := fun w => rputhead_c size hk w
  cases hs : sizeB size
  · have hB : layB size L = false := by unfold layB; rw [hs]; rfl
    rw [hs, headR_no hs] at P
    have HB := Lib.hid hB
    have HR := Lib.hid (layR_no hB)
    obtain ⟨a, c, rfl, _⟩ := h
    clear hs hB
    go_enter Tryz.func36, Tryz.ntmps36
    go_wp2_with fail
    refine (P _).mono ?_; rintro e u ⟨rfl, g⟩
    go_wp2_with fail
    go_ret2
    exact ⟨ret_sb HR.out.symm HB.out.symm, g⟩
  · rw [hs, headR_yes hs] at P
    cases ha : allB size L
    · have hB : layB size L = false := by unfold layB; rw [ha, Bool.and_false]
      have HB := Lib.hid hB
      have HR := Lib.hid (layR_no hB)
      have A := fun (u : World) (g : Gr w u) => rall_c (h.gr g) size hk hl
      rw [ha] at A
      have AA := Lib.hid A
      obtain ⟨a, c, rfl, _⟩ := h
      obtain ⟨hd, hhd⟩ : ∃ hd, hd = headS size := ⟨_, rfl⟩
      rw [← hhd] at P
      clear hs hB ha hhd A
      go_enter Tryz.func36, Tryz.ntmps36
      go_wp2_with fail
      refine (P _).mono ?_; rintro e u ⟨rfl, g⟩
      go_wp2_with fail
      refine (AA.out _ g).mono ?_; rintro e u2 ⟨rfl, rfl⟩
      go_wp2_with fail
      go_ret2
      exact ⟨ret_sb HR.out.symm HB.out.symm, g⟩
    · have hB : layB size L = true := by unfold layB; rw [ha, hs]; rfl
      have HB := Lib.hid hB
      have A := fun (u : World) (g : Gr w u) => rall_c (h.gr g) size hk hl
      rw [ha] at A
      have AA := Lib.hid A
      have HL := Lib.hid h
      obtain ⟨a, c, rfl, hc, h⟩ := h
      obtain ⟨n, hn⟩ : ∃ n, L.length = n := ⟨_, rfl⟩
      have HN := Lib.hid hn
      have H0 : 1 ≤ n → ∃ b off, a = some ⟨b, off, none⟩ ∧ SRow w b off L := fun h1 => h.elim (fun h0 => by rw [h0] at hn; simp at hn; omega) id
      have H := Lib.hid H0
      rw [hn] at hl hc HL AA ⊢
      have HZ := Lib.hid hz
      obtain ⟨hd, hhd⟩ : ∃ hd, hd = headS size := ⟨_, rfl⟩
      have hd11 : hd.size = 11 := by rw [hhd, headS_size]
      rw [← hhd] at P
      have HD := Lib.hid hhd
      clear hs hB ha hhd A hn h H0 hz
      go_enter Tryz.func36, Tryz.ntmps36
      go_wp2_with fail
      refine (P _).mono ?_; rintro e u ⟨rfl, g⟩
      go_wp2_with fail
      refine (AA.out _ g).mono ?_; rintro e u2 ⟨rfl, rfl⟩
      go_wp2_with fail
      go_loopw [6, 8] (fun s i wr => RlayAt size L n w s i wr) (fun _ i _ => n + 3 - (intOf i).toNat)
      case atStart => exact ⟨0, by omega, rfl, by rw [← HD.out]; simp [ups, blks_nil, bs_toList], g⟩
      case round =>
        obtain ⟨k, hk4, rfl, rfl, hb⟩ := hrel
        obtain ⟨i, hi⟩ : ∃ i, i = 4 * k := ⟨_, rfl⟩
        rw [← hi] at hk4 ⊢
        have HI := Lib.hid hi
        by_cases hlt : i < n
        · obtain ⟨b, off, rfl, hr⟩ := H.out (by omega)
          obtain ⟨e, he⟩ : ∃ e, e = min 4 (n - i) := ⟨_, rfl⟩
          have hmr := mid_run b off n c i e (by omega) (by omega) hc
          have hli := four_liesC hr (Gr.of hb) (c := c - i) (e := e) (j := k) (by have := HN.out; omega) (by have := HN.out; omega) (by omega)
          rw [← hi] at hli
          have hbk := four_blk HB.out (show k < cnt4 L by unfold cnt4; rw [HN.out]; omega)
          have F := rfput_c hli size hk (by have := four_le L k; omega)
          rw [hbk, blkS_yes hbk] at F
          have hmin : min ((i : Int) + 4) (n : Int) = (i : Int) + (e : Int) := by omega
          have hbd := ups_bound HB.out (show k ≤ cnt4 L by unfold cnt4; rw [HN.out]; omega)
          have hbz := blk_le hbk
          have hnext : bs ((headS size).data.toList ++ blks (ups L k)) ++ cl (blk (four L k)) = bs ((headS size).data.toList ++ blks (ups L (k + 1))) := by
            apply ext_toList
            rw [app_data, bs_data, bs_data, ups_succ, blks_app, List.append_assoc]
            simp [blks]
          have HX := Lib.hid hnext
          have HE := Lib.hid he
          generalize bs ((headS size).data.toList ++ blks (ups L k)) = S at hbd HX ⊢
          generalize cl (blk (four L k)) = B at F hbz HX
          have hi2 : (i : Int) ≤ 3010 := by omega
          have hS2 : (S.size : Int) ≤ 200000 := by omega
          have hB2 : (B.size : Int) ≤ 261 := by omega
          clear hi he hr hli hbk hnext hbd hbz hl hk4
          go_wp2_with fail
          refine F.mono ?_; rintro e2 u3 ⟨rfl, g3⟩
          go_wp2_with fail
          refine ⟨⟨k + 1, by have := HI.out; omega, by have := HI.out; congr 1; omega, by rw [HX.out], (Gr.of hb).trans g3⟩, ?_⟩
          simp [intOf]; omega
        · have hkc : k = cnt4 L := by unfold cnt4; rw [HN.out]; omega
          have hbd := ups_bound HB.out (show k ≤ cnt4 L by omega)
          have SC := rsum_c (HL.out.gr (Gr.of hb)) (by have := HN.out; omega) HZ.out
          have hpb := peB_len (show L.length ≤ 1000000 by have := HN.out; omega)
          have PE := fun w => rfputend_c (L.length : Int) (by have := HN.out; unfold I64; omega) (sumN L) (sumN_lt L) w
          rw [hpb, peS_yes hpb, Int.toNat_natCast] at PE
          have hze : (cl (endS L.length (sumN L))).size = 17 := by rw [cl_size, endS_size]
          have hfin : bs ((headS size).data.toList ++ blks (ups L k)) ++ cl (endS L.length (sumN L)) = layR size L := by
            rw [layR_yes HB.out, hkc]
            apply ext_toList
            rw [app_data, bs_data, bs_data]
            unfold layL endL
            rw [List.append_assoc]
          have HF := Lib.hid hfin
          generalize bs ((headS size).data.toList ++ blks (ups L k)) = S at hbd HF ⊢
          generalize cl (endS L.length (sumN L)) = E at PE hze HF
          have hS2 : (S.size : Int) ≤ 200000 := by omega
          have hE2 : (E.size : Int) ≤ 17 := by omega
          have hi2 : ¬ (i : Int) < (n : Int) := by omega
          clear hi hkc hbd hpb hfin hze hl hk4
          go_wp2_with fail
          refine SC.mono ?_; rintro e2 u3 ⟨rfl, g3⟩
          go_wp2_with fail
          refine (PE _).mono ?_; rintro e2 u4 ⟨rfl, g4⟩
          go_wp2_with fail
          go_ret2
          exact ⟨ret_sb HF.out HB.out.symm, ((Gr.of hb).trans g3).trans g4⟩
end Go.Proofs.YtignfbdgpgidpaaGreatDoor
/- The contract of the document's own Parse. -/
namespace Go.Proofs.YtignfbdgpgidpaaGreatDoor
open Go.RowKit CrcPlain OctPlain FramePlain RecPlain
set_option linter.unusedVariables false
set_option linter.unusedSimpArgs false
set_option maxRecDepth 20000
end Go.Proofs.YtignfbdgpgidpaaGreatDoor
/- The document's Whole of a disk, and of a file. -/
namespace Go.Proofs.YtignfbdgpgidpaaGreatDoor
open Go.RowKit FsPlain CrcPlain OctPlain FramePlain RecPlain
set_option linter.unusedVariables false
set_option linter.unusedSimpArgs false
set_option maxRecDepth 20000
def bytes22 (s : St) (n : List UInt8) : List UInt8 := match s.get n with
  | none => []
  | some f => f.data
theorem gr22 (w : World) (o : Obj) : Gr w (w.alloc o) := (Gr.refl w).alloc (Nat.le_refl _) o
theorem grd22 {a b : World} (g : Gr a b) : Gr a b.drew := g.drew
theorem gra22 {a b : World} {o : Obj} (g : Gr a b) : Gr a (b.alloc o) := g.trans (gr22 b o)
theorem grs22 {a b : World} {p i : Nat} {v : Value} (g : Gr a b) (h : a.heap.size ≤ p) : Gr a (b.setCell ⟨p, i, none⟩ v) := Below.setCell g h v
theorem info_cells {u : World} {q : Nat} {x y : Value} (h : u.heap[q]? = some (.cells #[x, y] 50 (0, 0))) : u.cell? ⟨q, 0, none⟩ = some x ∧ u.cell? ⟨q, 1, none⟩ = some y ∧ u.frozen? ⟨q, 0, none⟩ = false ∧ u.frozen? ⟨q, 1, none⟩ = false :=
  ⟨by rw [cells_at h]; rfl, by rw [cells_at h]; rfl, cells_free h 0, cells_free h 1⟩
end Go.Proofs.YtignfbdgpgidpaaGreatDoor
/- A file read through on a disk that does not fall: plain facts; the parts that a reader leaves. -/
namespace Go.Proofs.YtignfbdgpgidpaaGreatDoor
open Go.RowKit FsPlain CrcPlain OctPlain FramePlain RecPlain RdPlain
set_option linter.unusedVariables false
set_option linter.unusedSimpArgs false
set_option maxRecDepth 20000
namespace ScPlain
end ScPlain
end Go.Proofs.YtignfbdgpgidpaaGreatDoor
/- The program's layer 22: a file read through; Whole. -/
namespace Go.Proofs.YtignfbdgpgidpaaGreatDoor
open Go.RowKit FsPlain CrcPlain OctPlain FramePlain RecPlain RdPlain ScPlain
set_option linter.unusedVariables false
set_option linter.unusedSimpArgs false
set_option maxRecDepth 20000
section
variable {A : Nat → Prop} {x p q : Nat} {s : St} {b : Bu} {m : N3} {N : List Asn} {w u : World}
end
theorem info_ret1 {fn : Func} {p : Tmp} (hfn : fn.results = #[.cell p 50]) {tmps : Array Value} {o : Nat} {x y : Value} {w : World} (hp : tmps.getD p undef = .pointer (some ⟨o, 0, none⟩)) (hb : w.heap[o]? = some (.cells #[x, y] 50 (0, 0))) :
    (results fn tmps).run Tryz.prog w = .ok (.agg #[x, y]) w := by
  have c0 : w.cell? ⟨o, 0, none⟩ = some x := by rw [cells_at hb]; rfl
  have c1 : w.cell? ⟨o, 1, none⟩ = some y := by rw [cells_at hb]; rfl
  have hp2 := hp
  rw [Array.getD_eq_getD_getElem?] at hp2
  simp [results, hfn, hp2, go_sem, c0, c1]
theorem told22_c (nm : ByteArray) (size count sum : Int) (w : World) : Calls Tryz.prog 67 #[.agg #[.string nm, .int .i64 size, .int .i64 count, .int .u32 sum]] w fun e w' => e = .returned (.agg #[.int .i64 count, .int .u32 sum]) ∧ Gr w w' := by
  have y0 := heap_alloc_new w (.cells #[.string nm, .int .i64 size, .int .i64 count, .int .u32 sum] 48)
  have g1 := gr22 w (.cells #[.string nm, .int .i64 size, .int .i64 count, .int .u32 sum] 48)
  obtain ⟨V, hV⟩ : ∃ V, w.alloc (.cells #[.string nm, .int .i64 size, .int .i64 count, .int .u32 sum] 48) = V := ⟨_, rfl⟩
  have hVz : V.heap.size = w.heap.size + 1 := by rw [← hV]; simp
  rw [hV] at y0 g1
  have y1 := heap_alloc_new V (.cells #[.int .i64 count, .int .u32 sum] 50)
  have g2 := gr22 V (.cells #[.int .i64 count, .int .u32 sum] 50)
  rw [hVz] at y1
  have x2 : V.cell? ⟨w.heap.size, 2, none⟩ = some (.int .i64 count) := by rw [cells_at y0]; rfl
  have x3 : V.cell? ⟨w.heap.size, 3, none⟩ = some (.int .u32 sum) := by rw [cells_at y0]; rfl
  have ST := Lib.hid y1
  have GF := Lib.hid (g1.trans g2)
  have HV := Lib.hid hV
  clear y0 g1 hV hVz y1 g2
  go_enter Tryz.func67, Tryz.ntmps67
  go_wp2_with fail
  rw [HV.out]
  exact bodyPost_ret (by exact info_ret1 rfl rfl ST.out) rfl ⟨rfl, GF.out⟩
theorem info_eqd (n m n' m' : Int) (r : Bool) (h : decide (n = n' ∧ m = m') = r) (w : World) : (binOp .eql 50 (.agg #[.int .i64 n, .int .u32 m]) (.agg #[.int .i64 n', .int .u32 m'])).run Tryz.prog w = .ok (.bool r) w := by
  subst h
  rw [run_eql_struct]
  by_cases h : n = n' ∧ m = m'
  · rw [h.1, h.2, info_same]
    simp [go_sem]
  · rw [info_off n m n' m' h, decide_eq_false h]
    rfl
end Go.Proofs.YtignfbdgpgidpaaGreatDoor
/- Contracts of both Lengths. -/
namespace Go.Proofs.YtignfbdgpgidpaaGreatDoor
open Go.RowKit CrcPlain OctPlain FramePlain RecPlain
set_option linter.unusedVariables false
set_option linter.unusedSimpArgs false
set_option maxRecDepth 20000
def lenB (size n : Int) : Bool := sizeB size && decide (0 ≤ n ∧ n ≤ 1099511627776)
def lenN (size n : Int) : Int := if lenB size n = true then 28 + 5 * ((n + 3) / 4) + n * size else 0
theorem lenN_no {size n : Int} (h : lenB size n = false) : lenN size n = 0 := by simp [lenN, h]
theorem lenN_yes {size n : Int} (h : lenB size n = true) : lenN size n = 28 + 5 * ((n + 3) / 4) + n * size := by simp [lenN, h]
theorem mul_le {a b c d : Int} (ha : 0 ≤ a) (hac : a ≤ c) (hb : 0 ≤ b) (hbd : b ≤ d) : 0 ≤ a * b ∧ a * b ≤ c * d :=
  ⟨Int.mul_nonneg ha hb, Int.mul_le_mul hac hbd hb (Int.le_trans ha hac)⟩
set_option maxHeartbeats 1000000 in
theorem length_c (k n : Int) (hk : I64 k) (hn : I64 n) (w : World) :
    Calls Tryz.prog 124 #[.int .i64 k, .int .i64 n] w fun e w' => e = .returned (.int .i64 (lenN k n)) ∧ w = w' := by
  have R := fun w => rsized_c k hk w
  cases hs : sizeB k
  · rw [hs] at R
    have HR := Lib.hid (lenN_no (show lenB k n = false by unfold lenB; rw [hs]; rfl))
    clear hs
    go_enter Tryz.func124, Tryz.ntmps124
    go_wp2_with fail
    refine (R _).mono ?_; rintro e u ⟨rfl, rfl⟩
    go_wp2_with fail
    go_ret
    exact ⟨ret_i HR.out.symm, rfl⟩
  · rw [hs] at R
    by_cases h : 0 ≤ n ∧ n ≤ 1099511627776
    · have hb : lenB k n = true := by unfold lenB; rw [hs, decide_eq_true h]; rfl
      have HR := Lib.hid (lenN_yes hb)
      have Q := fun w => room_c k hk w
      have hr : roomN k = 5 + 4 * k := by unfold roomN; rw [if_pos hs]
      simp only [sizeB, decide_eq_true_eq] at hs
      obtain ⟨h0, h1⟩ := h
      have hr0 : 0 ≤ roomN k ∧ roomN k ≤ 261 := by omega
      obtain ⟨r, hrr⟩ : ∃ r, r = roomN k := ⟨_, rfl⟩
      rw [← hrr] at Q hr hr0
      have HRR := Lib.hid hr
      clear hrr hr hb
      go_enter Tryz.func124, Tryz.ntmps124
      go_wp2_with fail
      refine (R _).mono ?_; rintro e u ⟨rfl, rfl⟩
      go_wp2_with fail
      refine (Q _).mono ?_; rintro e u ⟨rfl, rfl⟩
      go_wp2_with fail
      go_ret
      have hB := mul_le h0 h1 (show 0 ≤ k by omega) hs.2
      have hq : n + 4 - 1 = n + 3 := by omega
      have hq0 : 0 ≤ (n + 3) / 4 ∧ (n + 3) / 4 ≤ 274877906944 := by omega
      have hA := mul_le hq0.1 hq0.2 (show 0 ≤ k by omega) hs.2
      have hP : (n + 3) / 4 * r = 5 * ((n + 3) / 4) + 4 * ((n + 3) / 4 * k) := by
        rw [HRR.out, Int.mul_add, Int.mul_comm _ 5, ← Int.mul_assoc, Int.mul_comm _ 4, Int.mul_assoc]
      have hM : ((n + 3) / 4 * 4 - n) * k = 4 * ((n + 3) / 4 * k) - n * k := by
        rw [Int.sub_mul, Int.mul_comm ((n + 3) / 4) 4, Int.mul_assoc]
      have hout := HR.out
      refine ⟨ret_i ?_, rfl⟩
      rw [hout, hq, hP, hM]
      generalize (n + 3) / 4 * k = A at hA ⊢
      generalize n * k = B at hB ⊢
      unfold wrap64
      omega
    · have hb : lenB k n = false := by unfold lenB; rw [decide_eq_false h, Bool.and_false]
      have HR := Lib.hid (lenN_no hb)
      by_cases h0 : n < 0
      · clear h hs hb
        go_enter Tryz.func124, Tryz.ntmps124
        go_wp2_with fail
        refine (R _).mono ?_; rintro e u ⟨rfl, rfl⟩
        go_wp2_with fail
        go_ret
        exact ⟨ret_i HR.out.symm, rfl⟩
      · have h1 : 1099511627776 < n := by omega
        clear h hs hb
        go_enter Tryz.func124, Tryz.ntmps124
        go_wp2_with fail
        refine (R _).mono ?_; rintro e u ⟨rfl, rfl⟩
        go_wp2_with fail
        go_ret
        exact ⟨ret_i HR.out.symm, rfl⟩
end Go.Proofs.YtignfbdgpgidpaaGreatDoor
