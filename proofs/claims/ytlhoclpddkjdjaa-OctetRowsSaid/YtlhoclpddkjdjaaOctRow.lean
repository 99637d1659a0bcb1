/- Contracts of Row, and of the document's answer to it. -/
import Derived.Test.YtlhoclpddkjdjaaOctRows
import Derived.Test.YtlhoclpddkjdjaaOctRput
namespace Go.Proofs.Ytlhoclpddkjdjaa
open Go.RowKit OctPlain
set_option linter.unusedVariables false
set_option linter.unusedSimpArgs false

theorem info5 : (Try.prog.info? 5).map (fun i => (i.zero, i.size, i.bytes)) = some (some (.int .u8 0), 1, 1) := by kernel_rfl

def RowAt (zs : List Int) (len : Nat) (k : Int) (w : World) (v i : Value) (wr : World) : Prop :=
  ∃ j : Nat, j ≤ len ∧ i = .int .i64 j ∧ rowB (zs.take j) k = true ∧ wr.ownsRow w.heap.size 5 1 v (rowL (zs.take j) k).length (Lib.byteCells (rowL (zs.take j) k)) ∧ Below w.heap.size w wr

set_option maxHeartbeats 4000000 in
theorem row_c (b off len cap : Nat) (zs : List Int) (k : Int) (hk : I64 k) (w : World) (hlen : len ≤ 20) (hzl : zs.length = len) (hb : b < w.heap.size)
    (hc : ∀ j, j < zs.length → w.cell? ⟨b, off + j, none⟩ = some (.int .i64 (zs.getD j 0))) (hwf : ∀ n ∈ zs, I64 n) :
    Calls Try.prog 15 #[.slice (some ⟨b, off, none⟩) len cap, .int .i64 k] w fun e w' => e = .returned (.tuple #[.string (rowS zs k), .bool (rowB zs k)]) ∧ Gr w w' := by
  have hk' := hk
  unfold I64 at hk'
  obtain ⟨i0, hi, hz0, hz1, hz2⟩ := info_parts info5
  go_enter Try.func15, Try.ntmps15
  go_wp2_with fail
  go_loopw [6, 12] (fun v i wr => RowAt zs len k w v i wr) (fun _ i _ => len - (intOf i).toNat)
  case atStart => exact ⟨0, Nat.zero_le _, rfl, rfl, World.ownsRow_nil _ _ _ _, Below.refl _ _⟩
  case round =>
    obtain ⟨j, hj, rfl, hB, hown, hbel⟩ := hrel
    by_cases hlt : j < len
    · obtain ⟨z, hz⟩ : ∃ z, zs.getD j 0 = z := ⟨_, rfl⟩
      have hcx : wr.cell? ⟨b, off + j, none⟩ = some (.int .i64 z) := by rw [hbel.cell hb, hc j (by omega), hz]
      have hzw : I64 z := by rw [← hz, getD_at zs j (by omega)]; exact hwf _ (List.getElem_mem _)
      have hsz := hbel.size
      cases hf : fitsB z k
      · have hno : rowB zs k = false := rowB_no (by omega) hz hf
        have hs := rowS_no hno
        clear hz hB
        go_wp2_with fail
        refine (fits_c z k hzw hk _).mono ?_
        rintro e u ⟨rfl, rfl⟩
        go_wp2
        go_ret2
        exact ⟨ret_sb hs.symm hno.symm, Gr.of hbel⟩
      · have hstep := take_snoc zs j z (by omega) hz
        have hfk := hf
        simp only [fitsB, decide_eq_true_eq] at hfk
        obtain ⟨hk8, hz0', _⟩ := hfk
        have hB' : rowB (zs.take (j + 1)) k = true := by rw [hstep, rowB_snoc, hB, hf]; rfl
        have hL := rowL_snoc (zs.take j) z k
        rw [← hstep] at hL
        have hlen1 := rowL_length (zs.take j) k
        rw [List.length_take] at hlen1
        have hjm : min j zs.length = j := by omega
        rw [hjm] at hlen1
        generalize hA : rowL (zs.take j) k = A at hown hL hlen1
        generalize hA2 : rowL (zs.take (j + 1)) k = A2 at hL
        have hfin : ∀ (v' : Value) (wx : World), wx.ownsRow w.heap.size 5 1 v' (A.length + k.toNat) (Lib.byteCells A ++ Lib.byteCells (beL k.toNat z.toNat)) → Below w.heap.size w wx → RowAt zs len k w v' (.int .i64 ((j : Int) + 1)) wx := by
          intro v' wx h1 h2
          refine ⟨j + 1, by omega, rfl, hB', ?_, h2⟩
          rw [hA2, hL, List.length_append, beL_length]
          unfold Lib.byteCells at h1 ⊢
          rw [List.map_append]; exact h1
        have hcell := fun u => cells8 u z k.toNat hz0' (by omega)
        have hpos := hlen1
        have hAlen : A.length ≤ 160 := by
          have : j * k.toNat ≤ 20 * 8 := Nat.mul_le_mul (by omega) (by omega)
          omega
        clear hz hB hB' hstep hL hlen1 hpos hA hA2 hjm
        have hh := Lib.hid hfin
        have hh2 := Lib.hid hcell
        clear hfin hcell
        go_wp2_with fail
        refine (fits_c z k hzw hk _).mono ?_
        rintro e u ⟨rfl, rfl⟩
        go_wp2_with fail
        refine (full_c z hzw _).mono ?_
        rintro e u ⟨rfl, g⟩
        have hown2 := hown.kept g.grown (Classical.em _)
        have hm : k = 1 ∨ k = 2 ∨ k = 3 ∨ k = 4 ∨ k = 5 ∨ k = 6 ∨ k = 7 ∨ k = 8 := by omega
        rcases hm with rfl | rfl | rfl | rfl | rfl | rfl | rfl | rfl
        · have hcl := hh2.out u
          go_wp2_with (first
            | (at_builtin; refine wpList_append_own _ rfl _ _ 41 rfl w.heap.size 5 i0 (.int .u8 0) 1 1 Try.underlying41 hi hz0 hz1 hz2 rfl (by decide) _ _ _ rfl (hown2.alloc _) ⟨u.heap.size, 7, none⟩ 1 1 (Lib.byteCells (beL 1 z.toNat)) rfl ?c0 ?c1 ?c2 ?c3 ?c4 ?c5 ?_)
            | go_in)
          case c0 => rw [Lib.byteCells_length, beL_length]
          case c1 => exact hcl
          case c2 => exact Lib.byteCells_one _
          case c3 => unfold maxLen; omega
          case c4 => omega
          case c5 => have := g.size; simp only [World.size_alloc]; omega
          · intro v' w1 hown' hgrow _
            have hb2 : Below w.heap.size w w1 := ((hbel.trans (g.mono hsz)).alloc (by have := g.size; omega) _).grown hgrow (by have := g.size; simp only [World.size_alloc]; omega) (fun q hq => (hown.lt q hq).1)
            clear hcl hown hown2 hgrow hc
            have hown3 := Lib.hid hown'
            clear hown'
            go_wp2
            refine ⟨hh.out _ _ hown3.out hb2, ?_⟩
            simp [intOf]; omega
        · have hcl := hh2.out u
          go_wp2_with (first
            | (at_builtin; refine wpList_append_own _ rfl _ _ 41 rfl w.heap.size 5 i0 (.int .u8 0) 1 1 Try.underlying41 hi hz0 hz1 hz2 rfl (by decide) _ _ _ rfl (hown2.alloc _) ⟨u.heap.size, 6, none⟩ 2 2 (Lib.byteCells (beL 2 z.toNat)) rfl ?c0 ?c1 ?c2 ?c3 ?c4 ?c5 ?_)
            | go_in)
          case c0 => rw [Lib.byteCells_length, beL_length]
          case c1 => exact hcl
          case c2 => exact Lib.byteCells_one _
          case c3 => unfold maxLen; omega
          case c4 => omega
          case c5 => have := g.size; simp only [World.size_alloc]; omega
          · intro v' w1 hown' hgrow _
            have hb2 : Below w.heap.size w w1 := ((hbel.trans (g.mono hsz)).alloc (by have := g.size; omega) _).grown hgrow (by have := g.size; simp only [World.size_alloc]; omega) (fun q hq => (hown.lt q hq).1)
            clear hcl hown hown2 hgrow hc
            have hown3 := Lib.hid hown'
            clear hown'
            go_wp2
            refine ⟨hh.out _ _ hown3.out hb2, ?_⟩
            simp [intOf]; omega
        · have hcl := hh2.out u
          go_wp2_with (first
            | (at_builtin; refine wpList_append_own _ rfl _ _ 41 rfl w.heap.size 5 i0 (.int .u8 0) 1 1 Try.underlying41 hi hz0 hz1 hz2 rfl (by decide) _ _ _ rfl (hown2.alloc _) ⟨u.heap.size, 5, none⟩ 3 3 (Lib.byteCells (beL 3 z.toNat)) rfl ?c0 ?c1 ?c2 ?c3 ?c4 ?c5 ?_)
            | go_in)
          case c0 => rw [Lib.byteCells_length, beL_length]
          case c1 => exact hcl
          case c2 => exact Lib.byteCells_one _
          case c3 => unfold maxLen; omega
          case c4 => omega
          case c5 => have := g.size; simp only [World.size_alloc]; omega
          · intro v' w1 hown' hgrow _
            have hb2 : Below w.heap.size w w1 := ((hbel.trans (g.mono hsz)).alloc (by have := g.size; omega) _).grown hgrow (by have := g.size; simp only [World.size_alloc]; omega) (fun q hq => (hown.lt q hq).1)
            clear hcl hown hown2 hgrow hc
            have hown3 := Lib.hid hown'
            clear hown'
            go_wp2
            refine ⟨hh.out _ _ hown3.out hb2, ?_⟩
            simp [intOf]; omega
        · have hcl := hh2.out u
          go_wp2_with (first
            | (at_builtin; refine wpList_append_own _ rfl _ _ 41 rfl w.heap.size 5 i0 (.int .u8 0) 1 1 Try.underlying41 hi hz0 hz1 hz2 rfl (by decide) _ _ _ rfl (hown2.alloc _) ⟨u.heap.size, 4, none⟩ 4 4 (Lib.byteCells (beL 4 z.toNat)) rfl ?c0 ?c1 ?c2 ?c3 ?c4 ?c5 ?_)
            | go_in)
          case c0 => rw [Lib.byteCells_length, beL_length]
          case c1 => exact hcl
          case c2 => exact Lib.byteCells_one _
          case c3 => unfold maxLen; omega
          case c4 => omega
          case c5 => have := g.size; simp only [World.size_alloc]; omega
          · intro v' w1 hown' hgrow _
            have hb2 : Below w.heap.size w w1 := ((hbel.trans (g.mono hsz)).alloc (by have := g.size; omega) _).grown hgrow (by have := g.size; simp only [World.size_alloc]; omega) (fun q hq => (hown.lt q hq).1)
            clear hcl hown hown2 hgrow hc
            have hown3 := Lib.hid hown'
            clear hown'
            go_wp2
            refine ⟨hh.out _ _ hown3.out hb2, ?_⟩
            simp [intOf]; omega
        · have hcl := hh2.out u
          go_wp2_with (first
            | (at_builtin; refine wpList_append_own _ rfl _ _ 41 rfl w.heap.size 5 i0 (.int .u8 0) 1 1 Try.underlying41 hi hz0 hz1 hz2 rfl (by decide) _ _ _ rfl (hown2.alloc _) ⟨u.heap.size, 3, none⟩ 5 5 (Lib.byteCells (beL 5 z.toNat)) rfl ?c0 ?c1 ?c2 ?c3 ?c4 ?c5 ?_)
            | go_in)
          case c0 => rw [Lib.byteCells_length, beL_length]
          case c1 => exact hcl
          case c2 => exact Lib.byteCells_one _
          case c3 => unfold maxLen; omega
          case c4 => omega
          case c5 => have := g.size; simp only [World.size_alloc]; omega
          · intro v' w1 hown' hgrow _
            have hb2 : Below w.heap.size w w1 := ((hbel.trans (g.mono hsz)).alloc (by have := g.size; omega) _).grown hgrow (by have := g.size; simp only [World.size_alloc]; omega) (fun q hq => (hown.lt q hq).1)
            clear hcl hown hown2 hgrow hc
            have hown3 := Lib.hid hown'
            clear hown'
            go_wp2
            refine ⟨hh.out _ _ hown3.out hb2, ?_⟩
            simp [intOf]; omega
        · have hcl := hh2.out u
          go_wp2_with (first
            | (at_builtin; refine wpList_append_own _ rfl _ _ 41 rfl w.heap.size 5 i0 (.int .u8 0) 1 1 Try.underlying41 hi hz0 hz1 hz2 rfl (by decide) _ _ _ rfl (hown2.alloc _) ⟨u.heap.size, 2, none⟩ 6 6 (Lib.byteCells (beL 6 z.toNat)) rfl ?c0 ?c1 ?c2 ?c3 ?c4 ?c5 ?_)
            | go_in)
          case c0 => rw [Lib.byteCells_length, beL_length]
          case c1 => exact hcl
          case c2 => exact Lib.byteCells_one _
          case c3 => unfold maxLen; omega
          case c4 => omega
          case c5 => have := g.size; simp only [World.size_alloc]; omega
          · intro v' w1 hown' hgrow _
            have hb2 : Below w.heap.size w w1 := ((hbel.trans (g.mono hsz)).alloc (by have := g.size; omega) _).grown hgrow (by have := g.size; simp only [World.size_alloc]; omega) (fun q hq => (hown.lt q hq).1)
            clear hcl hown hown2 hgrow hc
            have hown3 := Lib.hid hown'
            clear hown'
            go_wp2
            refine ⟨hh.out _ _ hown3.out hb2, ?_⟩
            simp [intOf]; omega
        · have hcl := hh2.out u
          go_wp2_with (first
            | (at_builtin; refine wpList_append_own _ rfl _ _ 41 rfl w.heap.size 5 i0 (.int .u8 0) 1 1 Try.underlying41 hi hz0 hz1 hz2 rfl (by decide) _ _ _ rfl (hown2.alloc _) ⟨u.heap.size, 1, none⟩ 7 7 (Lib.byteCells (beL 7 z.toNat)) rfl ?c0 ?c1 ?c2 ?c3 ?c4 ?c5 ?_)
            | go_in)
          case c0 => rw [Lib.byteCells_length, beL_length]
          case c1 => exact hcl
          case c2 => exact Lib.byteCells_one _
          case c3 => unfold maxLen; omega
          case c4 => omega
          case c5 => have := g.size; simp only [World.size_alloc]; omega
          · intro v' w1 hown' hgrow _
            have hb2 : Below w.heap.size w w1 := ((hbel.trans (g.mono hsz)).alloc (by have := g.size; omega) _).grown hgrow (by have := g.size; simp only [World.size_alloc]; omega) (fun q hq => (hown.lt q hq).1)
            clear hcl hown hown2 hgrow hc
            have hown3 := Lib.hid hown'
            clear hown'
            go_wp2
            refine ⟨hh.out _ _ hown3.out hb2, ?_⟩
            simp [intOf]; omega
        · have hcl := hh2.out u
          go_wp2_with (first
            | (at_builtin; refine wpList_append_own _ rfl _ _ 41 rfl w.heap.size 5 i0 (.int .u8 0) 1 1 Try.underlying41 hi hz0 hz1 hz2 rfl (by decide) _ _ _ rfl (hown2.alloc _) ⟨u.heap.size, 0, none⟩ 8 8 (Lib.byteCells (beL 8 z.toNat)) rfl ?c0 ?c1 ?c2 ?c3 ?c4 ?c5 ?_)
            | go_in)
          case c0 => rw [Lib.byteCells_length, beL_length]
          case c1 => exact hcl
          case c2 => exact Lib.byteCells_one _
          case c3 => unfold maxLen; omega
          case c4 => omega
          case c5 => have := g.size; simp only [World.size_alloc]; omega
          · intro v' w1 hown' hgrow _
            have hb2 : Below w.heap.size w w1 := ((hbel.trans (g.mono hsz)).alloc (by have := g.size; omega) _).grown hgrow (by have := g.size; simp only [World.size_alloc]; omega) (fun q hq => (hown.lt q hq).1)
            clear hcl hown hown2 hgrow hc
            have hown3 := Lib.hid hown'
            clear hown'
            go_wp2
            refine ⟨hh.out _ _ hown3.out hb2, ?_⟩
            simp [intOf]; omega
    · obtain rfl : j = len := by omega
      have ht : zs.take j = zs := List.take_of_length_le (by omega)
      rw [ht] at hB hown
      have hs := rowS_yes hB
      have hcv := conv_own hown
      have hB' := Lib.hid hB
      clear hB ht hown
      go_wp2
      go_ret2
      exact ⟨ret_sb hs.symm hB'.out.symm, Gr.of hbel⟩

set_option maxHeartbeats 1000000 in
theorem row_empty (a : Option Addr) (cap : Nat) (k : Int) (hk : I64 k) (w : World) :
    Calls Try.prog 15 #[.slice a 0 cap, .int .i64 k] w fun e w' => e = .returned (.tuple #[.string (rowS [] k), .bool (rowB [] k)]) ∧ Gr w w' := by
  have hs : rowS [] k = ⟨#[]⟩ := rfl
  have hB : rowB [] k = true := rfl
  have hcv := Lib.run_convert_nil_bytes (P := Try.prog) w _ _ 5 0 Try.underlying41 Try.underlying5 Try.underlying9
  go_enter Try.func15, Try.ntmps15
  go_wp2_with fail
  go_rounds 1
  go_ret2
  first | exact ⟨rfl, Gr.refl _⟩ | exact ⟨ret_sb hs.symm hB.symm, Gr.refl _⟩

def RRowAt (zs : List Int) (len : Nat) (k : Int) (w : World) (s i : Value) (wr : World) : Prop :=
  ∃ j : Nat, j ≤ len ∧ i = .int .i64 j ∧ rowB (zs.take j) k = true ∧ s = .string (bs (rowL (zs.take j) k)) ∧ Below w.heap.size w wr

set_option maxHeartbeats 4000000 in
theorem rrow_c (b off len cap : Nat) (zs : List Int) (k : Int) (hk : I64 k) (w : World) (hlen : len ≤ 20) (hzl : zs.length = len) (hb : b < w.heap.size)
    (hc : ∀ j, j < zs.length → w.cell? ⟨b, off + j, none⟩ = some (.int .i64 (zs.getD j 0))) (hwf : ∀ n ∈ zs, I64 n) :
    Calls Try.prog 16 #[.slice (some ⟨b, off, none⟩) len cap, .int .i64 k] w fun e w' => e = .returned (.tuple #[.string (rowS zs k), .bool (rowB zs k)]) ∧ Gr w w' := by
  have hk' := hk
  unfold I64 at hk'
  go_enter Try.func16, Try.ntmps16
  go_wp2_with fail
  go_loopw [6, 7] (fun s i wr => RRowAt zs len k w s i wr) (fun _ i _ => len - (intOf i).toNat)
  case atStart => exact ⟨0, Nat.zero_le _, rfl, rfl, rfl, Below.refl _ _⟩
  case round =>
    obtain ⟨j, hj, rfl, hB, rfl, hbel⟩ := hrel
    by_cases hlt : j < len
    · obtain ⟨z, hz⟩ : ∃ z, zs.getD j 0 = z := ⟨_, rfl⟩
      have hcx : wr.cell? ⟨b, off + j, none⟩ = some (.int .i64 z) := by rw [hbel.cell hb, hc j (by omega), hz]
      have hzw : I64 z := by rw [← hz, getD_at zs j (by omega)]; exact hwf _ (List.getElem_mem _)
      have hsz := hbel.size
      cases hf : fitsB z k
      · have hno : rowB zs k = false := rowB_no (by omega) hz hf
        have hs := rowS_no hno
        clear hz hB
        go_wp2_with fail
        refine (rput_c z k hzw hk _).mono ?_
        rintro e u ⟨rfl, g⟩
        go_wp2
        go_ret2
        exact ⟨ret_sb hs.symm hno.symm, Gr.trans (Gr.of hbel) g⟩
      · have hstep := take_snoc zs j z (by omega) hz
        have hfk := hf
        simp only [fitsB, decide_eq_true_eq] at hfk
        obtain ⟨hk8, hz0', _⟩ := hfk
        have hB' : rowB (zs.take (j + 1)) k = true := by rw [hstep, rowB_snoc, hB, hf]; rfl
        have hL := rowL_snoc (zs.take j) z k
        rw [← hstep] at hL
        have hlen1 := rowL_length (zs.take j) k
        rw [List.length_take] at hlen1
        have hjm : min j zs.length = j := by omega
        rw [hjm] at hlen1
        generalize hA : rowL (zs.take j) k = A at hL hlen1
        generalize hA2 : rowL (zs.take (j + 1)) k = A2 at hL
        have hp : putS z k = bs (beL k.toNat z.toNat) := by simp [putS, hf]
        have hp1 : (bs A ++ bs (beL k.toNat z.toNat)) = bs A2 := by rw [bs_app, hL]
        have hp2 : (bs A).size = A.length := bs_size _
        have hp3 : (bs (beL k.toNat z.toNat)).size = k.toNat := by rw [bs_size, beL_length]
        have hAlen : A.length ≤ 160 := by
          have : j * k.toNat ≤ 20 * 8 := Nat.mul_le_mul (by omega) (by omega)
          omega
        have hh := Lib.hid (show rowB (zs.take (j + 1)) k = true ∧ bs A2 = bs (rowL (zs.take (j + 1)) k) from ⟨hB', by rw [hA2]⟩)
        clear hz hB hB' hstep hL hlen1 hA hA2 hjm
        go_wp2_with fail
        refine (rput_c z k hzw hk _).mono ?_
        rintro e u ⟨rfl, g⟩
        go_wp2
        refine ⟨⟨j + 1, by omega, rfl, hh.out.1, by rw [hh.out.2], hbel.trans (g.mono hsz)⟩, ?_⟩
        simp [intOf]; omega
    · obtain rfl : j = len := by omega
      have ht : zs.take j = zs := List.take_of_length_le (by omega)
      rw [ht] at hB ⊢
      have hs := rowS_yes hB
      have hB' := Lib.hid hB
      clear hB ht
      go_wp2
      go_ret2
      first | exact ⟨rfl, Gr.of hbel⟩ | exact ⟨ret_sb hs.symm hB'.out.symm, Gr.of hbel⟩
set_option maxHeartbeats 1000000 in
theorem rrow_empty (a : Option Addr) (cap : Nat) (k : Int) (hk : I64 k) (w : World) :
    Calls Try.prog 16 #[.slice a 0 cap, .int .i64 k] w fun e w' => e = .returned (.tuple #[.string (rowS [] k), .bool (rowB [] k)]) ∧ Gr w w' := by
  have hs : rowS [] k = ⟨#[]⟩ := rfl
  have hB : rowB [] k = true := rfl
  go_enter Try.func16, Try.ntmps16
  go_wp2_with fail
  go_rounds 1
  go_ret2
  first | exact ⟨rfl, Gr.refl _⟩ | exact ⟨ret_sb hs.symm hB.symm, Gr.refl _⟩
end Go.Proofs.Ytlhoclpddkjdjaa
