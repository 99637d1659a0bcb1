/- What the program's rec writes: fields, one behind the other. -/
import Derived.Test.YtnmddnhllfojeaaRcPlain
import Derived.Test.YtnmddnhllfojeaaOctPut2
import Derived.Test.YtnmddnhllfojeaaOctRows
import Derived.Lib.AppendStr
namespace Go.Proofs.Ytnmddnhllfojeaa
open Go.RowKit OctPlain RcPlain
set_option linter.unusedVariables false
set_option linter.unusedSimpArgs false
set_option maxRecDepth 20000
theorem info8w : (Try.prog.info? 5).map (fun i => (i.zero, i.size, i.bytes)) = some (some (.int .u8 0), 1, 1) := by kernel_rfl
def wrB (l : List (Int × Int)) : Bool := l.all (fun f => fitsB f.1 f.2)
def wrL : List (Int × Int) → List UInt8
  | [] => []
  | f :: r => (putS f.1 f.2).data.toList ++ wrL r
def wrS (l : List (Int × Int)) : ByteArray := if wrB l = true then bs (wrL l) else ⟨#[]⟩
theorem wrL_app : ∀ a b, wrL (a ++ b) = wrL a ++ wrL b
  | [], b => rfl
  | f :: r, b => by simp only [List.cons_append, wrL, wrL_app r b, List.append_assoc]
theorem wrL_le : ∀ l, (wrL l).length ≤ 8 * l.length
  | [] => by simp [wrL]
  | f :: r => by
    have h1 := wrL_le r
    have h2 := put_le f.1 f.2
    have h3 : (putS f.1 f.2).data.toList.length = (putS f.1 f.2).size := by rw [Array.length_toList]; rfl
    simp only [wrL, List.length_append, List.length_cons]
    omega
def WrAt (l : List (Int × Int)) (w : World) (v i : Value) (wr : World) : Prop :=
  ∃ (j : Nat) (A : List UInt8), j ≤ l.length ∧ i = .int .i64 (j : Int) ∧ wrB (l.take j) = true ∧ A = wrL (l.take j) ∧ wr.ownsRow w.heap.size 5 1 v A.length (Lib.byteCells A) ∧ Below w.heap.size w wr
set_option maxHeartbeats 4000000 in
theorem write_c (b : Nat) (l : List (Int × Int)) (w : World) (hb : b < w.heap.size) (hl : l.length ≤ 4)
    (hc : ∀ j f, l[j]? = some f → w.cell? ⟨b, j * 2, none⟩ = some (.int .i64 f.1) ∧ w.cell? ⟨b, j * 2 + 1, none⟩ = some (.int .i64 f.2)) (hw : ∀ f ∈ l, I64 f.1 ∧ I64 f.2) :
    Calls Try.prog 27 #[.slice (some ⟨b, 0, none⟩) l.length l.length] w fun e w' => e = .returned (.tuple #[.string (wrS l), .bool (wrB l)]) ∧ Gr w w' := by
  obtain ⟨i0, hi, hz0, hz1, hz2⟩ := info_parts info8w
  have HC := Lib.hid hc
  have HW := Lib.hid hw
  clear hc hw
  go_enter Try.func27, Try.ntmps27
  go_wp2_with (at_make; refine wpList_make_own _ rfl _ _ 76 rfl w.heap.size 5 i0 (.int .u8 0) 1 Try.underlying76 hi hz0 hz1 .i64 .i64 _ 64 rfl rfl (by first | rfl | omega) (by rw [hz2]; omega) (by unfold maxLen; omega) (Nat.le_refl _) ?_; intro w0 hown0 hgrow0)
  have g0 : Gr w w0 := Below.grown (Below.refl _ _) hgrow0 (Nat.le_refl _) (fun k e => by cases e)
  go_loopw [4, 12] (fun v i wr => WrAt l w v i wr) (fun _ i _ => l.length - (intOf i).toNat)
  case atStart => exact ⟨0, [], Nat.zero_le _, rfl, rfl, rfl, by simpa [Lib.byteCells] using hown0, g0⟩
  case round =>
    obtain ⟨j, A, hj, rfl, hall, hA, hown, hbel⟩ := hrel
    have hsz := hbel.size
    by_cases hlt : j < l.length
    · obtain ⟨f, hf⟩ : ∃ f, l[j]? = some f := ⟨l[j], List.getElem?_eq_getElem hlt⟩
      have hmem : f ∈ l := List.mem_of_getElem? hf
      have hstep : l.take (j + 1) = l.take j ++ [f] := by
        rw [List.take_add_one, hf]; rfl
      obtain ⟨hn, hk⟩ := HW.out f hmem
      obtain ⟨d1, d2⟩ := HC.out j f hf
      have c1 : wr.cell? ⟨b, j * 2, none⟩ = some (.int .i64 f.1) := by rw [hbel.cell hb]; exact d1
      have c2 : wr.cell? ⟨b, j * 2 + 1, none⟩ = some (.int .i64 f.2) := by rw [hbel.cell hb]; exact d2
      have hAl : A.length ≤ 32 := by
        have h1 := wrL_le (l.take j)
        rw [← hA, List.length_take] at h1
        omega
      obtain ⟨n, k⟩ := f
      dsimp only at hn hk c1 c2
      have C := fun u => put_c n k hn hk u
      cases hfit : fitsB n k
      · have HN := Lib.hid (show wrB l = false by
          unfold wrB
          rw [List.all_eq_false]
          exact ⟨(n, k), hmem, by simp [hfit]⟩)
        rw [hfit, put_no hfit] at C
        have HCx := Lib.hid C
        have HA := Lib.hid hown0
        clear hf hmem hstep hn hk d1 d2 hall hA hown C hfit hown0 hgrow0 HA
        go_wp2_with fail
        refine (HCx.out _).mono ?_; rintro e u ⟨rfl, g⟩
        go_wp2_with fail
        go_ret2
        refine ⟨ret_sb (by unfold wrS; rw [HN.out]; rfl) HN.out.symm, ?_⟩
        exact Below.trans (Below.alloc hbel hsz _) (Below.mono g (by simp; omega))
      · have hS1 : (putS n k).size ≤ 8 := put_le n k
        have hfin : ∀ (v' : Value) (wx : World), wx.ownsRow w.heap.size 5 1 v' (A.length + (putS n k).size) (Lib.byteCells A ++ Lib.strCells (putS n k)) → Below w.heap.size w wx → WrAt l w v' (.int .i64 ((j : Int) + 1)) wx := by
          intro v' wx h1 h2
          refine ⟨j + 1, A ++ (putS n k).data.toList, by omega, rfl, ?_, ?_, ?_, h2⟩
          · unfold wrB at hall ⊢
            rw [hstep, List.all_append, hall]; simp [hfit]
          · rw [hstep, wrL_app, hA]; simp [wrL]
          · rw [List.length_append, Array.length_toList]
            unfold Lib.byteCells at h1 ⊢
            unfold Lib.strCells at h1
            rw [List.map_append]; exact h1
        rw [hfit] at C
        generalize putS n k = s1 at C hfin hS1
        have HCx := Lib.hid C
        have HF := Lib.hid hfin
        clear hf hmem hstep hn hk d1 d2 hall hA C hfit hown0 hgrow0 hfin
        go_wp2_with fail
        refine (HCx.out _).mono ?_; rintro e u ⟨rfl, g⟩
        have hb1 : Below w.heap.size w u := Below.trans (Below.alloc hbel hsz _) (Below.mono g (by simp; omega))
        have hown2 := (hown.alloc _).kept g.grown (Classical.em _)
        have hlt2 := hown.lt
        go_wp2_with (first
          | (at_builtin; refine Lib.wpList_append_own_string _ rfl _ _ 76 9 rfl w.heap.size 5 i0 Try.underlying76 Try.underlying9 hi hz0 hz1 hz2 _ _ _ rfl hown2 s1 rfl ?c3 ?c4 ?c5 ?_)
          | go_in)
        case c3 => unfold maxLen; omega
        case c4 => omega
        case c5 => have := hb1.size; omega
        intro v' w1 hown' hgrow _
        have hb2 : Below w.heap.size w w1 := hb1.grown hgrow hb1.size (fun q hq => (hown.lt q hq).1)
        clear hown hown2 hgrow hlt2
        have hown3 := Lib.hid hown'
        clear hown'
        go_wp2
        refine ⟨HF.out _ _ hown3.out hb2, ?_⟩
        simp [intOf]; omega
    · obtain rfl : j = l.length := by omega
      have ht : l.take l.length = l := List.take_length
      rw [ht] at hall hA
      have HB := Lib.hid hall
      subst hA
      have HS := Lib.hid (show wrS l = bs (wrL l) by unfold wrS; rw [if_pos HB.out])
      have hcv := conv_own hown
      clear hall ht hown hown0 hgrow0
      go_wp2_with fail
      go_ret2
      exact ⟨ret_sb HS.out.symm HB.out.symm, Gr.of hbel⟩
end Go.Proofs.Ytnmddnhllfojeaa
