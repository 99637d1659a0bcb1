/- Contracts of the program's Right; of an iterator of pairs. -/
import Derived.Test.YtipfdildnnfmkaaDiRef
import Derived.Test.YtipfdildnnfmkaaOnly
import Derived.Test.YtipfdildnnfmkaaTold
import Derived.RangeFuncNested
import Derived.RangeFuncBound
import Derived.RangeFuncCalls
import Derived.RangeFuncLeaves
import Derived.Shelf.Abstract
import Derived.Shelf.RegionOpen
import Derived.OwnWalkIn
import Derived.TacticsInMore
import Derived.LoopNIn
import Derived.LoopIn
import Derived.Stop.RegionWithIn
namespace Go.Proofs.Ytipfdildnnfmkaa
open Go.RowKit Go.Shelf DiPlain
set_option linter.unusedVariables false
set_option linter.unusedSimpArgs false
set_option maxRecDepth 20000
attribute [local go_sem] Oper.semAt_some
theorem dfitd_c (x : Int) (w : World) :
    Calls Try.prog 32 #[.int .i64 x] w fun e w' => e = .returned (.bool (fitD x)) ∧ w = w' := by
  unfold fitD
  by_cases h1 : -16777215 ≤ x <;> by_cases h2 : x ≤ 16777215
  all_goals
    go_enter Try.func32, Try.ntmps32
    go_wp2
    go_ret
    exact ⟨by simp [h1, h2], rfl⟩
def sizedD (x : Int) : Bool := decide (1 ≤ x ∧ x ≤ 4096)
theorem sizedD_no {n : Nat} (h : ¬ (1 ≤ n ∧ n ≤ 4096)) : sizedD n = false := by unfold sizedD; rw [decide_eq_false_iff_not]; omega
theorem sizedD_yes {n : Nat} (h : 1 ≤ n ∧ n ≤ 4096) : sizedD n = true := by unfold sizedD; rw [decide_eq_true_iff]; omega
theorem disized_c (x : Int) (w : World) :
    Calls Try.prog 31 #[.int .i64 x] w fun e w' => e = .returned (.bool (sizedD x)) ∧ w = w' := by
  unfold sizedD
  by_cases h1 : 1 ≤ x <;> by_cases h2 : x ≤ 4096
  all_goals
    go_enter Try.func31, Try.ntmps31
    go_wp2
    go_ret
    exact ⟨by simp [h1, h2], rfl⟩
set_option maxHeartbeats 1000000 in
theorem dright_c {w : World} {v : Value} {l : List Int} (h : LiesI w v l) (hl : l.length ≤ 9223372036854775807) :
    Calls Try.prog 23 #[v] w fun e w' => e = .returned (.bool (rightV l)) ∧ w = w' := by
  obtain ⟨a, c, rfl, hc, h⟩ := h
  have H0 : 1 ≤ l.length → ∃ b off, a = some ⟨b, off, none⟩ ∧ VRow w b off (ints l) := fun h1 => h.elim (fun h0 => by rw [h0] at h1; simp at h1) id
  have H := Lib.hid H0
  clear h H0
  have hl2 : (l.length : Int) ≤ 9223372036854775807 := by omega
  clear hl
  by_cases t1 : 1 ≤ l.length ∧ l.length ≤ 4096
  rotate_left 1
  · have HX := Lib.hid (rightV_len (v := l) t1)
    have F := fun w => disized_c (l.length : Int) w
    rw [sizedD_no t1] at F
    clear t1
    go_enter Try.func23, Try.ntmps23
    go_wp2_with fail
    refine (F _).mono ?_; rintro e u ⟨rfl, rfl⟩
    go_wp2_with fail
    go_ret
    exact ⟨retb11 HX.out.symm, rfl⟩
  · have F := fun w => disized_c (l.length : Int) w
    rw [sizedD_yes t1] at F
    have T1 := Lib.hid t1
    clear t1
    · go_enter Try.func23, Try.ntmps23
      go_wp2_with fail
      refine (F _).mono ?_; rintro e u ⟨rfl, rfl⟩
      clear F
      go_wp2_with fail
      go_loopw [11] (fun i wr => RvvAt l w i wr) (fun i _ => l.length - (intOf i).toNat)
      case atStart => exact ⟨0, Nat.zero_le _, rfl, rfl, rfl⟩
      case round =>
        obtain ⟨j, hj, rfl, hall, rfl⟩ := hrel
        by_cases hlt : j < l.length
        · obtain ⟨z, hz, hstep, hmem⟩ := take_on hlt
          obtain ⟨b, off, rfl, hv⟩ := H.out (by omega)
          have c2 := hv.2 j _ (ints_at hz)
          have F := fun w => dfitd_c z w
          have HF := Lib.hid (fun (h : fitD z = false) => rightV_fit hmem h)
          have HG := Lib.hid (fun (h : fitD z = true) => (show (l.take (j + 1)).all fitD = true by rw [hstep, List.all_append, hall]; simp [h]))
          clear hz hstep hmem hall hv
          cases hf : fitD z
          · rw [hf] at F
            have HX := Lib.hid (HF.out hf)
            clear hf
            go_wp2_with fail
            refine (F _).mono ?_; rintro e u ⟨rfl, rfl⟩
            go_wp2_with fail
            go_ret
            exact ⟨retb11 HX.out.symm, rfl⟩
          · rw [hf] at F
            have HX := Lib.hid (HG.out hf)
            clear hf
            go_wp2_with fail
            refine (F _).mono ?_; rintro e u ⟨rfl, rfl⟩
            go_wp2_with fail
            refine ⟨⟨j + 1, by omega, rfl, HX.out, rfl⟩, ?_⟩
            simp [intOf]; omega
        · obtain rfl : j = l.length := by omega
          rw [List.take_length] at hall
          have HX := Lib.hid (rightV_yes (v := l) T1.out hall)
          clear hall
          go_wp2_with fail
          go_ret
          exact ⟨retb11 HX.out.symm, rfl⟩
/-- Of some pairs the sum of the squares. -/
def farP : List (Int × Int) → Int
  | x :: r => sq x.1 x.2 + farP r
  | [] => 0
theorem farP_snoc : ∀ (l : List (Int × Int)) (x : Int × Int), farP (l ++ [x]) = farP l + sq x.1 x.2
  | [], x => by simp [farP]
  | y :: r, x => by simp only [List.cons_append, farP]; rw [farP_snoc r x, Int.add_assoc]
theorem farP_zip : ∀ a b : List Int, farP (a.zip b) = far a b
  | x :: a, y :: b => by simp only [List.zip_cons_cons, farP, far]; rw [farP_zip a b]
  | [], _ => by simp [farP, far]
  | _ :: _, [] => by simp [farP, far]
theorem take_zip (a b : List Int) (j : Nat) : (a.zip b).take j = (a.take j).zip (b.take j) := by
  induction j generalizing a b with
  | zero => simp
  | succ j ih =>
    match a, b with
    | [], _ => simp
    | _ :: _, [] => simp
    | x :: a, y :: b => simp [ih a b]
theorem farP_take_le {a b : List Int} (h1 : rightV a = true) (h2 : rightV b = true) (j : Nat) : 0 ≤ farP ((a.zip b).take j) ∧ farP ((a.zip b).take j) ≤ 4611685468671590400 := by
  rw [take_zip, farP_zip]
  exact far_take_le h1 h2 j
/-- What the iterator reads between two rounds. -/
def PairKeep (Bs Bn b1 b2 : Nat) (W W' : World) : Prop := W.heap.size ≤ W'.heap.size ∧ W'.heap[Bs]? = W.heap[Bs]? ∧ W'.heap[Bn]? = W.heap[Bn]? ∧ W'.heap[b1]? = W.heap[b1]? ∧ W'.heap[b2]? = W.heap[b2]?
theorem VRow.same {W W' : World} {b off : Nat} {vs : List Value} (h : VRow W b off vs) (hs : W.heap.size ≤ W'.heap.size) (hb : W'.heap[b]? = W.heap[b]?) : VRow W' b off vs :=
  ⟨Nat.lt_of_lt_of_le h.1 hs, fun j x hj => (World.cell?_of_block (w := W) (w' := W') (a := ⟨b, off + j, none⟩) hb).trans (h.2 j x hj)⟩
structure PairSt (a b : List Int) (n c1 c2 b1 o1 b2 o2 Bs Bn : Nat) (W : World) : Prop where
  p1 : W.heap[Bs]? = some (.cells #[.slice (some ⟨b1, o1, none⟩) n c1] 22 (0, 0))
  p2 : W.heap[Bn]? = some (.cells #[.slice (some ⟨b2, o2, none⟩) n c2] 22 (0, 0))
  r1 : VRow W b1 o1 (ints a)
  r2 : VRow W b2 o2 (ints b)
theorem PairSt.keep {a b : List Int} {n c1 c2 b1 o1 b2 o2 Bs Bn : Nat} {W W' : World} (h : PairSt a b n c1 c2 b1 o1 b2 o2 Bs Bn W) (k : PairKeep Bs Bn b1 b2 W W') : PairSt a b n c1 c2 b1 o1 b2 o2 Bs Bn W' :=
  ⟨k.2.1.trans h.p1, k.2.2.1.trans h.p2, h.r1.same k.1 k.2.2.2.1, h.r2.same k.1 k.2.2.2.2⟩
theorem PairSt.gr {a b : List Int} {n c1 c2 b1 o1 b2 o2 Bs Bn : Nat} {W W' : World} (h : PairSt a b n c1 c2 b1 o1 b2 o2 Bs Bn W) (g : Gr W W') : PairSt a b n c1 c2 b1 o1 b2 o2 Bs Bn W' :=
  ⟨(g.block _ (lt_of_block h.p1)).trans h.p1, (g.block _ (lt_of_block h.p2)).trans h.p2, h.r1.gr g, h.r2.gr g⟩
def PairAt (a b : List Int) (n c1 c2 b1 o1 b2 o2 Bs Bn : Nat) (J : List (Int × Int) → World → Prop) (i : Value) (wr : World) : Prop :=
  ∃ k : Nat, k ≤ n ∧ i = .int .i64 (k : Int) ∧ J ((a.zip b).take k) wr ∧ PairSt a b n c1 c2 b1 o1 b2 o2 Bs Bn wr
def PairPr (a b : List Int) (pre : List (Int × Int)) (x : Int × Int) (_ : World) : Prop := ∃ j, pre = (a.zip b).take j ∧ (a.zip b)[j]? = some x
end Go.Proofs.Ytipfdildnnfmkaa
