/- slices.Insert of one near one into a row of one's own, wherever, whether there is room or not: what the library's own text does. -/
import Derived.Test.YtllfecgaadfkoaaTkProgC
import Derived.Shelf.Spec.SlicesInsertGrow
namespace Go.Proofs.Ytllfecgaadfkoaa
open Go.RowKit TkPlain
set_option linter.unusedVariables false
set_option linter.unusedSimpArgs false
set_option maxRecDepth 20000
/-- A list cut into four. -/
theorem four_cut {α : Type} (C : List α) (p b : Nat) (h : p + 3 + b ≤ C.length) : ∃ P M N R, C = P ++ (M ++ (N ++ R)) ∧ P.length = p ∧ M.length = 3 ∧ N.length = b :=
  ⟨C.take p, (C.drop p).take 3, (C.drop (p + 3)).take b, C.drop (p + 3 + b), by
    rw [show C.drop (p + 3 + b) = (C.drop (p + 3)).drop b by rw [List.drop_drop], List.take_append_drop, show C.drop (p + 3) = (C.drop p).drop 3 by rw [List.drop_drop], List.take_append_drop, List.take_append_drop], by rw [List.length_take]; omega, by rw [List.length_take, List.length_drop]; omega, by rw [List.length_take, List.length_drop]; omega⟩
theorem take_at {α : Type} {P Q : List α} {n : Nat} (h : P.length = n) : (P ++ Q).take n = P := by subst h; simp
theorem drop_at {α : Type} {P Q : List α} {n : Nat} (h : P.length = n) : (P ++ Q).drop n = Q := by subst h; simp
theorem take_at2 {α : Type} {P M Q : List α} {n : Nat} (h : P.length + M.length = n) : (P ++ (M ++ Q)).take n = P ++ M := by rw [← List.append_assoc]; exact take_at (by rw [List.length_append]; exact h)
theorem drop_at2 {α : Type} {P M Q : List α} {n : Nat} (h : P.length + M.length = n) : (P ++ (M ++ Q)).drop n = Q := by rw [← List.append_assoc]; exact drop_at (by rw [List.length_append]; exact h)
theorem take_at3 {α : Type} {P M N Q : List α} {n : Nat} (h : P.length + M.length + N.length = n) : (P ++ (M ++ (N ++ Q))).take n = P ++ (M ++ N) := by
  rw [show P ++ (M ++ (N ++ Q)) = (P ++ (M ++ N)) ++ Q by simp]
  exact take_at (by simp; omega)
theorem drop_at3 {α : Type} {P M N Q : List α} {n : Nat} (h : P.length + M.length + N.length = n) : (P ++ (M ++ (N ++ Q))).drop n = Q := by
  rw [show P ++ (M ++ (N ++ Q)) = (P ++ (M ++ N)) ++ Q by simp]
  exact drop_at (by simp; omega)
/-- The shift in place: what stood from p on goes three cells on, then three cells are laid. -/
theorem shift_list {α : Type} (C X B : List α) (p : Nat) (hX : X.length = 3) (h : p + 3 + B.length ≤ C.length) (C1 C2 : List α) (h1 : C1 = C.take (p + 3) ++ B ++ C.drop (p + 3 + B.length)) (h2 : C2 = C1.take p ++ X ++ C1.drop (p + X.length)) : C2.take (p + 3 + B.length) = C.take p ++ X ++ B ∧ C2.length = C.length ∧ C1.length = C.length := by
  obtain ⟨P, M, N, R, rfl, hP, hM, hN⟩ := four_cut C p B.length h
  rw [take_at2 (by omega), drop_at3 (by omega)] at h1
  have e1 : C1 = P ++ (M ++ (B ++ R)) := by rw [h1]; simp
  subst e1
  rw [take_at hP, drop_at2 (by omega)] at h2
  have e2 : C2 = P ++ (X ++ (B ++ R)) := by rw [h2]; simp
  subst e2
  rw [take_at3 (by omega), take_at hP]
  refine ⟨by simp, by simp; omega, by simp; omega⟩
/-- In a new row: three cells are laid, then what stood from p on. -/
theorem grow_list {α : Type} (C X B : List α) (p : Nat) (hX : X.length = 3) (h : p + 3 + B.length ≤ C.length) (C1 C2 : List α) (h1 : C1 = C.take p ++ X ++ C.drop (p + X.length)) (h2 : C2 = C1.take (p + 3) ++ B ++ C1.drop (p + 3 + B.length)) : C2.take (p + 3 + B.length) = C.take p ++ X ++ B ∧ C2.length = C.length ∧ C1.length = C.length := by
  obtain ⟨P, M, N, R, rfl, hP, hM, hN⟩ := four_cut C p B.length h
  rw [take_at hP, drop_at2 (by omega)] at h1
  have e1 : C1 = P ++ (X ++ (N ++ R)) := by rw [h1]; simp
  subst e1
  rw [take_at2 (by omega), drop_at3 (by omega)] at h2
  have e2 : C2 = P ++ (X ++ (B ++ R)) := by rw [h2]; simp
  subst e2
  rw [take_at3 (by omega), take_at hP]
  refine ⟨by simp, by simp; omega, by simp; omega⟩
/-- copy, of elements of k cells each. -/
theorem run_copy_k {P : Program} (w : World) (dT sT ty elem : TypeId) (g o dLen dCap : Nat) (a : Addr) (sLen sCap : Nat) (cur : Array Value) (t : TypeId) (cs : List Value) (k : Nat)
    (hu : P.underlying dT = some (.slice elem)) (hs : (P.info? elem).map (·.size) = some k)
    (hg : w.heap[g]? = some (.cells cur t (0, 0))) (hn : cs.length = Nat.min sLen dLen * k)
    (hsrc : ∀ j v, cs[j]? = some v → w.cell? (a.add j) = some v) (hfit : o + cs.length ≤ cur.size) (h1 : ∀ v ∈ cs, v.oneCell' = true) :
    (Builtin.copy_ #[dT, sT] ty #[.slice (some ⟨g, o, none⟩) dLen dCap, .slice (some a) sLen sCap]).run P w =
      .ok (goInt (Nat.min sLen dLen)) (w.setRow g (cur.toList.take o ++ cs ++ cur.toList.drop (o + cs.length)).toArray) := by
  have hl := run_loadCells_list (P := P) w a cs hsrc
  have hst := run_storeCells_at P g o t cs 0 cur w hg (by simpa using hfit) h1
  cases hq : P.info? elem with
  | none => simp [hq] at hs
  | some i =>
    have hi : i.size = k := by simpa [hq] using hs
    simp [Builtin.copy_, run_underlying hu, Builtin.lenOf, Builtin.firstCells, sizeOf, typeInfo, hq, hi, ← hn, hl, hst]
/-- A slice of what stands from a place on, up to a place. -/
theorem cut_from (g n c i o' n' c' : Nat) (h1 : i ≤ n) (h2 : n ≤ c) (h3 : i < c) (z : Int) (hz : z = i) (ho : o' = i * 3) (hn : n' = n - i) (hc : c' = c - i) (w : World) :
    (Instr.slice 22 (.slice (some ⟨g, 0, none⟩) n c) (some (.int .i64 z)) none none).run Try.prog w = .ok (.slice (some ⟨g, o', none⟩) n' c') w := by
  subst hz hn hc
  have := last_any (some ⟨g, 0, none⟩) n c i h1 h2 w
  rw [if_neg (by omega)] at this
  rw [this]
  simp only [Option.map_some, add_lit, ho, Nat.zero_add]
theorem cut_to (a : Option Addr) (n c i : Nat) (h2 : n ≤ c) (h3 : i ≤ c) (z : Int) (hz : z = i) (w : World) :
    (Instr.slice 22 (.slice a n c) none (some (.int .i64 z)) none).run Try.prog w = .ok (.slice a i c) w := by
  subst hz
  have h3 : (i : Int) ≤ (c : Int) := by omega
  cases a <;> simp [Instr.slice, Instr.sliceBounds, run_underlying Try.underlying22, go_sem, sliced, h3, show Try.prog.cellsOf 26 = 3 by kernel_rfl]
/-- What Insert answers: a row of one's own. -/
def InsGot (B : Nat) (l : List Nr) (w : World) (e : Ending) (w' : World) : Prop := ∃ v', e = .returned v' ∧ w'.ownsRow B 26 3 v' l.length (nrs l) ∧ Below B w w'
theorem insGot {B : Nat} {l : List Nr} {w w' : World} {v' : Value} (h : w'.ownsRow B 26 3 v' l.length (nrs l)) (g : Below B w w') : InsGot B l w (.returned v') w' := ⟨v', rfl, h, g⟩
theorem nrs_three (x : Nr) : (nrs [x]).length = 3 := rfl
theorem heap_setRow_ne (w : World) (g k : Nat) (cs : Array Value) (h : k ≠ g) : (w.setRow g cs).heap[k]? = w.heap[k]? := setRow_other w g k cs h
set_option maxHeartbeats 4000000 in
/-- At the end. -/
theorem insert_end_c {w : World} {v : Value} {l : List Nr} {B : Nat} (hown : w.ownsRow B 26 3 v l.length (nrs l)) (hB : B ≤ w.heap.size) (hl : l.length ≤ 1000) (x : Nr) (p : Nat) (hp : w.heap[p]? = some (.cells #[.int .i64 x.d, .int .i64 x.id, .bool x.nw] 26 (0, 0))) :
    Calls Try.prog 24 #[v, .int .i64 l.length, .slice (some ⟨p, 0, none⟩) 1 1] w fun e w' => InsGot B (l ++ [x]) w e w' := by
  have HO := Lib.hid hown
  have hpb : p < w.heap.size := by
    rcases Nat.lt_or_ge p w.heap.size with h | h
    · exact h
    · rw [Array.getElem?_eq_none h] at hp; cases hp
  have HX : LiesN w (.slice (some ⟨p, 0, none⟩) 1 1) [x] := ⟨_, 1, rfl, Nat.le_refl _, .inr ⟨p, 0, rfl, hpb, fun j y hj => by
    match j, hj with
    | 0, hj =>
      obtain rfl : x = y := by simpa using hj
      refine ⟨?_, ?_, ?_⟩ <;> simp [World.cell?, hp]
    | j + 1, hj => simp at hj⟩⟩
  have HXX := Lib.hid HX
  obtain ⟨a, c, rfl, hc⟩ : ∃ a c, v = .slice a l.length c ∧ l.length ≤ c := by
    obtain ⟨_, p⟩ := hown
    rcases p with ⟨rfl, z⟩ | ⟨g, cap, cur, rfl, _, _, hn, _⟩
    · exact ⟨none, 0, by rw [z], by omega⟩
    · exact ⟨_, cap, rfl, hn⟩
  have la := last_any a l.length c l.length (Nat.le_refl _) hc
  obtain ⟨v2, hv2⟩ : ∃ v2, v2 = Value.slice (if c = l.length then a else a.map (·.add (l.length * 3))) (l.length - l.length) (c - l.length) := ⟨_, rfl⟩
  rw [← hv2] at la
  clear hv2 hown HX hp
  go_enter Try.func24, Try.ntmps24
  go_wp2_with (at_builtin; refine wpList_app_near (xs := l) (ys := [x]) rfl _ _ B rfl rfl ?l0 rfl ?l1 ?l2 ?l3 ?_)
  case l0 => exact HO.out
  case l1 => exact HXX.out
  case l2 => simp; omega
  case l3 => exact hB
  intro o1 y1 hown1 hgr1 _
  have b1 : Below B w y1 := (Below.refl _ _).grown hgr1 hB (fun q hq => (HO.out.lt q hq).1)
  have HO1 := Lib.hid hown1
  clear hown1 hgr1
  go_wp2_with fail
  go_ret
  refine insGot ?_ b1
  have := HO1.out
  rw [List.length_append]
  exact this
end Go.Proofs.Ytllfecgaadfkoaa
