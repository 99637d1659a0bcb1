/- In one text: RecRparse. -/
import Derived.Test.YtignfbdgpgidpaaGreatDoorW13
import Derived.Test.YtignfbdgpgidpaaGreatDoorW10
/- The contract of the document's own Parse. -/
namespace Go.Proofs.YtignfbdgpgidpaaGreatDoor
open Go.RowKit CrcPlain OctPlain FramePlain RecPlain
set_option linter.unusedVariables false
set_option linter.unusedSimpArgs false
set_option maxRecDepth 20000
def RparAt (size : Int) (s : ByteArray) (w : World) (l i : Value) (wr : World) : Prop :=
  ∃ (ps : List (List ByteArray)) (k : Nat), i = .int .i64 k ∧ 11 ≤ k ∧ k ≤ s.size ∧ wr.ownsRow (w.heap.size + 1) 9 1 l ps.flatten.length (strs ps.flatten) ∧ Below w.heap.size w wr ∧
    wr.heap[w.heap.size]? = some (.cells #[.int .i64 0, .int .u32 0] 50 (0, 0)) ∧ s.data.toList.drop 11 = blks ps ++ s.data.toList.drop k ∧ ∀ p ∈ ps, blkB size p = true
theorem file_head {size : Int} {s : ByteArray} {l : List ByteArray} (h : IsFile size s l) : s.data.toList = (headS size).data.toList ++ s.data.toList.drop 11 ∧ 28 ≤ s.size := by
  have hl := headS_length size
  have e := h.2
  unfold layL at e
  refine ⟨?_, ?_⟩
  · have : s.data.toList.drop 11 = blks (ups l (cnt4 l)) ++ endL l := by rw [e, List.drop_append_of_le_length (by omega), List.drop_of_length_le (by omega), List.nil_append]
    rw [this, ← e]
  · have := congrArg List.length e
    rw [data_length, List.length_append, List.length_append, hl, endL_length] at this
    omega
theorem extract_drop (s : ByteArray) (k : Nat) : (s.extract k s.size).data.toList = s.data.toList.drop k := by
  rw [extract_data, List.take_of_length_le (by rw [data_length]; omega)]
theorem cnt_extract {s : ByteArray} {k : Nat} (h : k < s.size) : cntN (s.extract k s.size) = s[k].toNat := by
  have e : (s.extract k s.size).data.toList = s[k] :: s.data.toList.drop (k + 1) := by
    rw [extract_drop]
    exact List.drop_eq_getElem_cons (by rw [data_length]; exact h)
  exact cnt_head e
theorem gB_cnt {size : Int} {s : ByteArray} (h : cntN s = 0) : gB size s = false := by
  unfold gB
  rw [decide_eq_false (by omega), Bool.and_false, Bool.false_and, Bool.false_and]
theorem index_at (s : ByteArray) (k : Nat) (h : k < s.size) (w : World) : (Instr.index 9 (.string s) (.int .i64 (k : Int))).run Tryz.prog w = .ok (.int .u8 (s[k].toNat : Int)) w := by
  rw [run_index_string w 9 s .i64 (k : Int) Tryz.underlying9, dif_pos ⟨by omega, by omega⟩]
  simp
theorem walk_end {size : Int} {s : ByteArray} {ps : List (List ByteArray)} {k : Nat} (hd : s.data.toList.drop 11 = blks ps ++ s.data.toList.drop k) (hp : ∀ p ∈ ps, blkB size p = true) (hg : gB size (s.extract k s.size) = false) (l : List ByteArray) (h : IsFile size s l) :
    ps.flatten = l ∧ s.data.toList.drop k = endL l := by
  obtain ⟨h1, _⟩ := file_head h
  rw [hd, ← extract_drop s k] at h1
  have := file_not hp h1 (.inl hg) h
  rw [extract_drop] at this
  exact this
theorem ended {size : Int} {s : ByteArray} {ps : List (List ByteArray)} {k : Nat} (hd : s.data.toList.drop 11 = blks ps ++ s.data.toList.drop k) (hp : ∀ p ∈ ps, blkB size p = true) (hg : gB size (s.extract k s.size) = false) :
    (layB size ps.flatten = true ∧ layR size ps.flatten = s → IsFile size s ps.flatten) ∧ (¬ (layB size ps.flatten = true ∧ layR size ps.flatten = s) → ∀ l, ¬ IsFile size s l) := by
  refine ⟨fun h => ⟨h.1, ?_⟩, fun h l hi => ?_⟩
  · have := h.2
    rw [layR_yes h.1] at this
    rw [← this, bs_data]
  · obtain ⟨e, _⟩ := walk_end hd hp hg l hi
    subst e
    refine h ⟨hi.1, ?_⟩
    rw [layR_yes hi.1]
    apply ext_toList
    rw [bs_data]
    exact hi.2.symm
theorem flat_small {size : Int} {ps : List (List ByteArray)} (hp : ∀ p ∈ ps, blkB size p = true) : ∀ x ∈ ps.flatten, x.size ≤ 1000 := fun x hx => by
  obtain ⟨q, h1, h2⟩ := List.mem_flatten.1 hx
  obtain ⟨h3, _, h4⟩ := blk_parts (hp q h1)
  simp only [sizeB, decide_eq_true_eq] at h3
  have := h4 x h2
  omega
def PGotN (size : Int) (s : ByteArray) (w : World) (e : Ending) (w' : World) : Prop :=
  (∃ L v, IsFile size s L ∧ e = .returned (.tuple #[v, .agg #[.int .i64 (L.length : Nat), .int .u32 (sumN L : Nat)], .int .i64 0]) ∧ w'.ownsRow w.heap.size 9 1 v L.length (strs L) ∧ Gr w w') ∨
  ((∀ L, ¬ IsFile size s L) ∧ e = .returned (.tuple #[.slice none 0 0, .agg #[.int .i64 0, .int .u32 0], .int .i64 6]) ∧ Gr w w')
theorem own_less {w : World} {B : Nat} {E : TypeId} {z : Nat} {v : Value} {n : Nat} {xs : List Value} (h : w.ownsRow (B + 1) E z v n xs) : w.ownsRow B E z v n xs :=
  ⟨h.1, h.2.imp id fun ⟨g, cap, cur, e, hb, r⟩ => ⟨g, cap, cur, e, Nat.le_of_succ_le hb, r⟩⟩
set_option maxRecDepth 100000 in
set_option maxHeartbeats 4000000 in
theorem rparse_n (size : Int) (hk : I64 size) (s : ByteArray) (hz : s.size ≤ 3000) (w : World) :
    Calls Tryz.prog 68 #[.int .i64 size, .string s] w (PGotN size s w) := by
  have p5 := heap_alloc_new w (.cells #[.int .i64 0, .int .u32 0] 50)
  have gw := gral w (.cells #[.int .i64 0, .int .u32 0] 50)
  by_cases h11 : s.size < 11
  · have HNO := Lib.hid (show ∀ l, ¬ IsFile size s l from fun l hi => by have := (file_head hi).2; omega)
    obtain ⟨X, hX⟩ : ∃ X, X = w.alloc (.cells #[.int .i64 0, .int .u32 0] 50) := ⟨_, rfl⟩
    have HX := Lib.hid hX
    rw [← hX] at p5 gw
    have d0 : X.cell? ⟨w.heap.size, 0, none⟩ = some (.int .i64 0) := by rw [blk_at p5]; rfl
    have d1 : X.cell? ⟨w.heap.size, 1, none⟩ = some (.int .u32 0) := by rw [blk_at p5]; rfl
    have f0 : X.frozen? ⟨w.heap.size, 0, none⟩ = false := blk_free p5 0
    have f1 : X.frozen? ⟨w.heap.size, 1, none⟩ = false := blk_free p5 1
    have P5 := Lib.hid p5
    have h2 : (s.size : Int) < 11 := by omega
    rw [hX] at d0 d1 f0 f1
    clear hX p5 h11
    go_enter Tryz.func68, Tryz.ntmps68
    go_wp2_with fail
    rw [← HX.out]
    have e0 := blk_at P5.out 0
    have e1 := blk_at P5.out 1
    exact bodyPost_ret (v := .tuple #[.slice none 0 0, .agg #[.int .i64 0, .int .u32 0], .int .i64 6]) (by simp [results, Tryz.results68, go_sem, e0, e1]) rfl
      (.inr ⟨HNO.out, rfl, gw⟩)
  · have h2 : ¬ (s.size : Int) < 11 := by omega
    have HP5 := Lib.hid p5
    clear p5
    go_enter Tryz.func68, Tryz.ntmps68
    go_wp2_with fail
    go_loopw [7, 8] (fun l i wr => RparAt size s w l i wr) (fun _ i _ => s.size - (intOf i).toNat)
    case atStart => exact ⟨[], 11, rfl, Nat.le_refl _, by omega, World.ownsRow_nil _ _ _ _, gw, HP5.out, by simp [blks_nil], by simp⟩
    case round =>
      obtain ⟨ps, k, rfl, hk11, hks, hrow, hbel, p5, hd, hp⟩ := hrel
      by_cases hlt : k < s.size
      · have hix := index_at s k hlt
        have hcn := cnt_extract hlt
        have hb8 := s[k].toNat_lt
        obtain ⟨b, hb⟩ : ∃ b, b = s[k].toNat := ⟨_, rfl⟩
        rw [← hb] at hix hcn hb8
        clear hb
        by_cases hzero : b = 0
        · have hgf : gB size (s.extract k s.size) = false := gB_cnt (by rw [hcn, hzero])
          have hz1 : ((b : Int) != 0) = false := by simp; exact hzero
          have hz2 : ((b : Int) == 0) = true := by simp; exact hzero
          clear hzero hcn hb8
          obtain ⟨hy, hn⟩ := ended hd hp hgf
          have hsm := flat_small hp
          have hal : ps.flatten.length ≤ 3000 := by
            have h1 := blks_ge ps hp
            have h2 := congrArg List.length hd
            rw [List.length_append, List.length_drop, data_length] at h2
            omega
          generalize ps.flatten = acc at hrow hy hn hsm hal
          have hL := lies_own hrow
          have LY := rlay_c hL size hk (by omega) hsm
          have D0 := Lib.hid (show ∀ u, Gr wr u → u.heap[w.heap.size]? = some (.cells #[.int .i64 0, .int .u32 0] 50 (0, 0)) from fun u g => blk_gr p5 g)
          have SM := Lib.hid (show ∀ u, Gr wr u → Calls Tryz.prog 18 #[u7] u (SumGot acc u) from fun u g => rsum_c (hL.gr g) (by omega) hsm)
          have RW := Lib.hid hrow
          have HY := Lib.hid hy
          have HN := Lib.hid hn
          clear p5 hrow hd hp hsm hL hy hn
          cases hB : layB size acc
          · have HNO := Lib.hid (HN.out (by rw [hB]; simp))
            rw [hB, layR_no hB] at LY
            clear hB
            go_wp2_with fail
            refine LY.mono ?_; rintro e u ⟨rfl, g⟩
            have P5 := Lib.hid (D0.out u g)
            have c0 : u.cell? ⟨w.heap.size, 0, none⟩ = some (.int .i64 0) := by rw [blk_at P5.out]; rfl
            have c1 : u.cell? ⟨w.heap.size, 1, none⟩ = some (.int .u32 0) := by rw [blk_at P5.out]; rfl
            have f0 : u.frozen? ⟨w.heap.size, 0, none⟩ = false := blk_free P5.out 0
            have f1 : u.frozen? ⟨w.heap.size, 1, none⟩ = false := blk_free P5.out 1
            go_wp2_with fail
            have e0 := blk_at (set_two (x := .int .i64 0) (y := .int .u32 0) P5.out) 0
            have e1 := blk_at (set_two (x := .int .i64 0) (y := .int .u32 0) P5.out) 1
            exact bodyPost_ret (v := .tuple #[.slice none 0 0, .agg #[.int .i64 0, .int .u32 0], .int .i64 6]) (by simp [results, Tryz.results68, go_sem, e0, e1]) rfl
              (.inr ⟨HNO.out, rfl, set_two_below ((Gr.of hbel).trans g) (Nat.le_refl _)⟩)
          · rw [hB] at LY
            by_cases hs : layR size acc = s
            · have HYES := Lib.hid (HY.out ⟨hB, hs⟩)
              rw [hs] at LY
              have ht : (s.toList == s.toList) = true := by simp
              have ht2 : (s.toList != s.toList) = false := by simp
              clear hB hs
              go_wp2_with fail
              refine LY.mono ?_; rintro e u ⟨rfl, g⟩
              go_wp2_with fail
              refine (SM.out u g).mono ?_; rintro e u2 ⟨rfl, g2⟩
              have P5 := Lib.hid (D0.out u2 (g.trans g2))
              have c0 : u2.cell? ⟨w.heap.size, 0, none⟩ = some (.int .i64 0) := by rw [blk_at P5.out]; rfl
              have c1 : u2.cell? ⟨w.heap.size, 1, none⟩ = some (.int .u32 0) := by rw [blk_at P5.out]; rfl
              have f0 : u2.frozen? ⟨w.heap.size, 0, none⟩ = false := blk_free P5.out 0
              have f1 : u2.frozen? ⟨w.heap.size, 1, none⟩ = false := blk_free P5.out 1
              go_wp2_with fail
              have e0 := blk_at (set_two (x := .int .i64 (acc.length : Nat)) (y := .int .u32 (sumN acc : Nat)) P5.out) 0
              have e1 := blk_at (set_two (x := .int .i64 (acc.length : Nat)) (y := .int .u32 (sumN acc : Nat)) P5.out) 1
              have hrow := owns_set (k := w.heap.size) (i := 1) (x := .int .u32 (sumN acc : Nat)) (owns_set (k := w.heap.size) (i := 0) (x := .int .i64 (acc.length : Nat)) (ownsRow_grown RW.out (gr_grown (g.trans g2)) (fun r e => by cases e)) (by omega)) (by omega)
              exact bodyPost_ret (v := .tuple #[u7, .agg #[.int .i64 (acc.length : Nat), .int .u32 (sumN acc : Nat)], .int .i64 0]) (by simp [results, Tryz.results68, go_sem, e0, e1]) rfl
                (.inl ⟨acc, u7, HYES.out, rfl, own_less hrow, set_two_below (((Gr.of hbel).trans g).trans g2) (Nat.le_refl _)⟩)
            · have HNO := Lib.hid (HN.out (fun h => hs h.2))
              obtain ⟨T, hT⟩ : ∃ T, T = layR size acc := ⟨_, rfl⟩
              rw [← hT] at LY hs
              have ht : (T.toList == s.toList) = false := by
                have := eq_list (a := T) (b := s)
                rwa [decide_eq_false hs] at this
              have ht2 : (T.toList != s.toList) = true := by
                show (!(T.toList == s.toList)) = true
                rw [ht]; rfl
              clear hB hs hT
              go_wp2_with fail
              refine LY.mono ?_; rintro e u ⟨rfl, g⟩
              have P5 := Lib.hid (D0.out u g)
              have c0 : u.cell? ⟨w.heap.size, 0, none⟩ = some (.int .i64 0) := by rw [blk_at P5.out]; rfl
              have c1 : u.cell? ⟨w.heap.size, 1, none⟩ = some (.int .u32 0) := by rw [blk_at P5.out]; rfl
              have f0 : u.frozen? ⟨w.heap.size, 0, none⟩ = false := blk_free P5.out 0
              have f1 : u.frozen? ⟨w.heap.size, 1, none⟩ = false := blk_free P5.out 1
              go_wp2_with fail
              have e0 := blk_at (set_two (x := .int .i64 0) (y := .int .u32 0) P5.out) 0
              have e1 := blk_at (set_two (x := .int .i64 0) (y := .int .u32 0) P5.out) 1
              exact bodyPost_ret (v := .tuple #[.slice none 0 0, .agg #[.int .i64 0, .int .u32 0], .int .i64 6]) (by simp [results, Tryz.results68, go_sem, e0, e1]) rfl
                (.inr ⟨HNO.out, rfl, set_two_below ((Gr.of hbel).trans g) (Nat.le_refl _)⟩)
        · have hz1 : ((b : Int) != 0) = true := by simp; exact hzero
          have hz2 : ((b : Int) == 0) = false := by simp; exact hzero
          have hcut := cut_run s k (by omega)
          have G := rfget_c (s.extract k s.size) size hk wr (by rw [ByteArray.size_extract]; omega)
          cases hg : gB size (s.extract k s.size)
          · have hno : ∀ l, ¬ IsFile size s l := fun l hi => by
              obtain ⟨_, e2⟩ := walk_end hd hp hg l hi
              obtain ⟨r, hr⟩ := endL_cons l
              rw [hr, ← extract_drop] at e2
              have := cnt_head e2
              rw [hcn] at this
              exact hzero this
            have HNO := Lib.hid hno
            have HG := Lib.hid hg
            have P5 := Lib.hid p5
            generalize s.extract k s.size = r at hcut G HG
            clear hno hg hd hp hzero hcn p5 hrow
            go_wp2_with fail
            refine G.mono ?_
            rintro e u ⟨v, rfl, o, g⟩
            rw [HG.out]
            clear o
            have Q5 := Lib.hid (blk_gr P5.out g)
            have c0 : u.cell? ⟨w.heap.size, 0, none⟩ = some (.int .i64 0) := by rw [blk_at Q5.out]; rfl
            have c1 : u.cell? ⟨w.heap.size, 1, none⟩ = some (.int .u32 0) := by rw [blk_at Q5.out]; rfl
            have f0 : u.frozen? ⟨w.heap.size, 0, none⟩ = false := blk_free Q5.out 0
            have f1 : u.frozen? ⟨w.heap.size, 1, none⟩ = false := blk_free Q5.out 1
            go_wp2_with fail
            have e0 := blk_at (set_two (x := .int .i64 0) (y := .int .u32 0) Q5.out) 0
            have e1 := blk_at (set_two (x := .int .i64 0) (y := .int .u32 0) Q5.out) 1
            exact bodyPost_ret (v := .tuple #[.slice none 0 0, .agg #[.int .i64 0, .int .u32 0], .int .i64 6]) (by simp [results, Tryz.results68, go_sem, e0, e1]) rfl
              (.inr ⟨HNO.out, rfl, set_two_below ((Gr.of hbel).trans g) (Nat.le_refl _)⟩)
          · obtain ⟨n, hn, hn1, hn6, hsp⟩ := get_split hg
            have hblk := (get_is hg).1
            have hrz : (s.extract k s.size).size = s.size - k := by rw [ByteArray.size_extract]; omega
            have hkn : k + n ≤ s.size := by omega
            have hd2 : s.data.toList.drop 11 = blks (ps ++ [gL size (s.extract k s.size)]) ++ s.data.toList.drop (k + n) := by
              rw [hd, ← extract_drop s k, hsp, blks_app, extract_drop, extract_drop, List.drop_drop]
              simp [blks, List.append_assoc]
            have hp2 : ∀ p ∈ ps ++ [gL size (s.extract k s.size)], blkB size p = true := fun p hp3 => by
              rcases List.mem_append.1 hp3 with h | h
              · exact hp p h
              · simp at h; subst h; exact hblk
            have hal : ps.flatten.length ≤ 3000 := by
              have h1 := blks_ge ps hp
              have h2 := congrArg List.length hd
              rw [List.length_append, List.length_drop, data_length] at h2
              omega
            have h14 := (blk_parts hblk).2.1
            have HG := Lib.hid hg
            have HGN := Lib.hid hn
            have HD2 := Lib.hid hd2
            have HP2 := Lib.hid hp2
            have P5 := Lib.hid p5
            obtain ⟨p, hpp⟩ : ∃ p, p = gL size (s.extract k s.size) := ⟨_, rfl⟩
            rw [← hpp] at HD2 HP2 h14
            have HPP := Lib.hid hpp
            obtain ⟨r, hr⟩ : ∃ r, r = s.extract k s.size := ⟨_, rfl⟩
            rw [← hr] at hcut G HG HGN HPP hrz
            obtain ⟨i0, hi, hz0, hz3, hz4⟩ := info_parts info9
            obtain ⟨N, hN⟩ : ∃ N, ps.flatten.length = N := ⟨_, rfl⟩
            rw [hN] at hrow hal
            have HNN := Lib.hid hN
            have RW := Lib.hid hrow
            have hsz := hbel.size
            clear hg hn hd2 hp2 p5 hpp hr hd hp hzero hcn hsp hblk hrz hN hrow
            go_wp2_with fail
            refine G.mono ?_
            rintro e u ⟨v, rfl, o, g⟩
            rw [HG.out, HGN.out]
            rw [← HPP.out] at o
            have hlv := lies_own o
            obtain ⟨pa, pc, rfl, hpc, hpl⟩ := hlv
            obtain ⟨pb, po, rfl, hpr⟩ : ∃ pb po, pa = some ⟨pb, po, none⟩ ∧ SRow u pb po p := hpl.elim (fun e => by rw [e] at h14; simp at h14) id
            have hnews : ∀ j x, (strs p)[j]? = some x → u.cell? (Addr.add ⟨pb, po, none⟩ j) = some x := by
              intro j x hx
              rw [addr_add]
              unfold strs at hx
              rw [List.getElem?_map, Option.map_eq_some_iff] at hx
              obtain ⟨y, hy, rfl⟩ := hx
              exact hpr.2 j y hy
            have hone : ∀ x ∈ strs p, x.oneCell' = true := by
              intro x hx
              unfold strs at hx
              obtain ⟨y, _, rfl⟩ := List.mem_map.1 hx
              rfl
            have hrow2 := ownsRow_grown RW.out (gr_grown g) (fun r e => by cases e)
            have hgs := g.size
            have hbw : w.heap.size + 1 ≤ u.heap.size := by have := blk_lt P5.out; omega
            clear o hpl hpr
            go_wp2_with (at_builtin; refine wpList_append_own _ rfl _ _ 23 rfl (w.heap.size + 1) 9 i0 (.string ⟨#[]⟩) 1 16 Tryz.underlying23 hi hz0 hz3 hz4 rfl (by decide) _ _ _ rfl hrow2 ⟨pb, po, none⟩ p.length pc (strs p) rfl (by simp [strs]) hnews hone (by unfold maxLen; omega) (by omega) hbw ?_; intro v' w1 hown' hgrow _; have HO := Lib.hid hown'; have HGR := Lib.hid hgrow; clear hown' hgrow)
            have P6 : w1.heap[w.heap.size]? = some (.cells #[.int .i64 0, .int .u32 0] 50 (0, 0)) := (HGR.out.block w.heap.size (by omega) (row_ne hrow2 (by omega))).trans (blk_gr P5.out g)
            have hb2 : Below w.heap.size w w1 := Below.grown (show Below w.heap.size w u from (Gr.of hbel).trans g) HGR.out (by omega) (fun j e => by have := (hrow2.lt j e).1; omega)
            refine ⟨⟨ps ++ [p], k + n, by simp, by omega, hkn, ?_, hb2, P6, HD2.out, HP2.out⟩, ?_⟩
            · have e1 : (ps ++ [p]).flatten.length = N + p.length := by rw [flat_snoc, List.length_append, HNN.out]
              have e2 : strs (ps ++ [p]).flatten = strs ps.flatten ++ strs p := by rw [flat_snoc]; simp [strs]
              rw [e1, e2]; exact HO.out
            · simp [intOf]; omega
      · have hgf : gB size (s.extract k s.size) = false := gB_cnt (cntN_none _ (by rw [ByteArray.size_extract]; omega))
        have hlt2 : ¬ (k : Int) < (s.size : Int) := by omega
        obtain ⟨hy, hn⟩ := ended hd hp hgf
        have hsm := flat_small hp
        have hal : ps.flatten.length ≤ 3000 := by
          have h1 := blks_ge ps hp
          have h2 := congrArg List.length hd
          rw [List.length_append, List.length_drop, data_length] at h2
          omega
        generalize ps.flatten = acc at hrow hy hn hsm hal
        have hL := lies_own hrow
        have LY := rlay_c hL size hk (by omega) hsm
        have D0 := Lib.hid (show ∀ u, Gr wr u → u.heap[w.heap.size]? = some (.cells #[.int .i64 0, .int .u32 0] 50 (0, 0)) from fun u g => blk_gr p5 g)
        have SM := Lib.hid (show ∀ u, Gr wr u → Calls Tryz.prog 18 #[u7] u (SumGot acc u) from fun u g => rsum_c (hL.gr g) (by omega) hsm)
        have RW := Lib.hid hrow
        have HY := Lib.hid hy
        have HN := Lib.hid hn
        clear p5 hrow hd hp hsm hL hy hn
        cases hB : layB size acc
        · have HNO := Lib.hid (HN.out (by rw [hB]; simp))
          rw [hB, layR_no hB] at LY
          clear hB
          go_wp2_with fail
          refine LY.mono ?_; rintro e u ⟨rfl, g⟩
          have P5 := Lib.hid (D0.out u g)
          have c0 : u.cell? ⟨w.heap.size, 0, none⟩ = some (.int .i64 0) := by rw [blk_at P5.out]; rfl
          have c1 : u.cell? ⟨w.heap.size, 1, none⟩ = some (.int .u32 0) := by rw [blk_at P5.out]; rfl
          have f0 : u.frozen? ⟨w.heap.size, 0, none⟩ = false := blk_free P5.out 0
          have f1 : u.frozen? ⟨w.heap.size, 1, none⟩ = false := blk_free P5.out 1
          go_wp2_with fail
          have e0 := blk_at (set_two (x := .int .i64 0) (y := .int .u32 0) P5.out) 0
          have e1 := blk_at (set_two (x := .int .i64 0) (y := .int .u32 0) P5.out) 1
          exact bodyPost_ret (v := .tuple #[.slice none 0 0, .agg #[.int .i64 0, .int .u32 0], .int .i64 6]) (by simp [results, Tryz.results68, go_sem, e0, e1]) rfl
            (.inr ⟨HNO.out, rfl, set_two_below ((Gr.of hbel).trans g) (Nat.le_refl _)⟩)
        · rw [hB] at LY
          by_cases hs : layR size acc = s
          · have HYES := Lib.hid (HY.out ⟨hB, hs⟩)
            rw [hs] at LY
            have ht : (s.toList == s.toList) = true := by simp
            have ht2 : (s.toList != s.toList) = false := by simp
            clear hB hs
            go_wp2_with fail
            refine LY.mono ?_; rintro e u ⟨rfl, g⟩
            go_wp2_with fail
            refine (SM.out u g).mono ?_; rintro e u2 ⟨rfl, g2⟩
            have P5 := Lib.hid (D0.out u2 (g.trans g2))
            have c0 : u2.cell? ⟨w.heap.size, 0, none⟩ = some (.int .i64 0) := by rw [blk_at P5.out]; rfl
            have c1 : u2.cell? ⟨w.heap.size, 1, none⟩ = some (.int .u32 0) := by rw [blk_at P5.out]; rfl
            have f0 : u2.frozen? ⟨w.heap.size, 0, none⟩ = false := blk_free P5.out 0
            have f1 : u2.frozen? ⟨w.heap.size, 1, none⟩ = false := blk_free P5.out 1
            go_wp2_with fail
            have e0 := blk_at (set_two (x := .int .i64 (acc.length : Nat)) (y := .int .u32 (sumN acc : Nat)) P5.out) 0
            have e1 := blk_at (set_two (x := .int .i64 (acc.length : Nat)) (y := .int .u32 (sumN acc : Nat)) P5.out) 1
            have hrow := owns_set (k := w.heap.size) (i := 1) (x := .int .u32 (sumN acc : Nat)) (owns_set (k := w.heap.size) (i := 0) (x := .int .i64 (acc.length : Nat)) (ownsRow_grown RW.out (gr_grown (g.trans g2)) (fun r e => by cases e)) (by omega)) (by omega)
            exact bodyPost_ret (v := .tuple #[u7, .agg #[.int .i64 (acc.length : Nat), .int .u32 (sumN acc : Nat)], .int .i64 0]) (by simp [results, Tryz.results68, go_sem, e0, e1]) rfl
              (.inl ⟨acc, u7, HYES.out, rfl, own_less hrow, set_two_below (((Gr.of hbel).trans g).trans g2) (Nat.le_refl _)⟩)
          · have HNO := Lib.hid (HN.out (fun h => hs h.2))
            obtain ⟨T, hT⟩ : ∃ T, T = layR size acc := ⟨_, rfl⟩
            rw [← hT] at LY hs
            have ht : (T.toList == s.toList) = false := by
              have := eq_list (a := T) (b := s)
              rwa [decide_eq_false hs] at this
            have ht2 : (T.toList != s.toList) = true := by
              show (!(T.toList == s.toList)) = true
              rw [ht]; rfl
            clear hB hs hT
            go_wp2_with fail
            refine LY.mono ?_; rintro e u ⟨rfl, g⟩
            have P5 := Lib.hid (D0.out u g)
            have c0 : u.cell? ⟨w.heap.size, 0, none⟩ = some (.int .i64 0) := by rw [blk_at P5.out]; rfl
            have c1 : u.cell? ⟨w.heap.size, 1, none⟩ = some (.int .u32 0) := by rw [blk_at P5.out]; rfl
            have f0 : u.frozen? ⟨w.heap.size, 0, none⟩ = false := blk_free P5.out 0
            have f1 : u.frozen? ⟨w.heap.size, 1, none⟩ = false := blk_free P5.out 1
            go_wp2_with fail
            have e0 := blk_at (set_two (x := .int .i64 0) (y := .int .u32 0) P5.out) 0
            have e1 := blk_at (set_two (x := .int .i64 0) (y := .int .u32 0) P5.out) 1
            exact bodyPost_ret (v := .tuple #[.slice none 0 0, .agg #[.int .i64 0, .int .u32 0], .int .i64 6]) (by simp [results, Tryz.results68, go_sem, e0, e1]) rfl
              (.inr ⟨HNO.out, rfl, set_two_below ((Gr.of hbel).trans g) (Nat.le_refl _)⟩)
theorem rparse_c (size : Int) (hk : I64 size) (s : ByteArray) (hz : s.size ≤ 3000) (w : World) :
    Calls Tryz.prog 68 #[.int .i64 size, .string s] w (PGot size s w) :=
  (rparse_n size hk s hz w).mono fun e w' h => h.imp (fun ⟨L, v, h1, h2, h3, h4⟩ => ⟨L, v, h1, h2, lies_own h3, h4⟩) id
end Go.Proofs.YtignfbdgpgidpaaGreatDoor
