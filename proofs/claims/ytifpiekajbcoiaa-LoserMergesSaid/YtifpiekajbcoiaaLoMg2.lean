/- LoserMerges' rows with the program's tree; its argument's cells. -/
import Derived.Test.YtifpiekajbcoiaaLoAwake
import Derived.Test.YtifpiekajbcoiaaLoMg
import Derived.Test.YtifpiekajbcoiaaLoMp
import Derived.Test.YtifpiekajbcoiaaTextW
import Derived.Laws.OwnMore
namespace Go.Proofs.Ytifpiekajbcoiaa
open Go.RowKit LoPlain
set_option linter.unusedVariables false
set_option linter.unusedSimpArgs false
set_option maxRecDepth 20000
theorem textS_small (n : Nat) : (LoPlain.textS n).size ≤ 1000 := by unfold LoPlain.textS; rw [bs_size]; simp
section
variable {p : Nat} {l l2 : List Hd} {va vo vh vt vn : Value} {cn : List Int} {ov : List Bool} {hd : List ByteArray} {tt nn : List Int} {w wr : World}
theorem frs_one (p : Nat) (l : List Hd) : Frs [LoA p l] := ⟨fr_lo p l, trivial⟩
theorem Mg.call {f : FuncId} {args : Array Value} {x : Value} (h : Mg [LoA p l] va vo vh vt vn cn ov hd tt nn w wr) (k : ∀ B, LoA p l wr B → Calls Try.prog f args wr (Does wr B (LoA p l2) x)) :
    Calls Try.prog f args wr fun e w' => e = .returned x ∧ Mg [LoA p l2] va vo vh vt vn cn ov hd tt nn w w' := by
  obtain ⟨B, hs, n⟩ := h
  refine (does_at (P := LoA p l) (Q := LoA p l2) 5 rfl (frs_app15 (frs_mgps _ _ _ _ _ _ _ _ _ _) (frs_one p l)) hs k).mono ?_
  rintro e w' ⟨he, B', h', n'⟩
  exact ⟨he, B', h', n.trans n'⟩
theorem Mg.tree (h : Mg [] va vo vh vt vn cn ov hd tt nn w wr) {B1 : Nat → Prop} {w' : World} (ht : LoA p l w' B1) (hn : ∀ b, B1 b → wr.heap.size ≤ b) (g : Gr wr w') : Mg [LoA p l] va vo vh vt vn cn ov hd tt nn w w' := by
  obtain ⟨B, hs, n⟩ := h
  obtain ⟨B2, h2, n2⟩ := part_new (frs_app15 (frs_mgps _ _ _ _ _ _ _ _ _ _) (show Frs [] from trivial)) hs g ht hn
  refine ⟨B2, stars_perm ?_ h2, n.trans n2⟩
  rw [List.append_nil]
  exact (List.perm_append_comm (l₁ := [LoA p l]) (l₂ := mgps va vo vh vt vn cn ov hd tt nn))
end
theorem liesV_ownB {w : World} {v : Value} {l : List Bool} (h : w.ownsRow 0 4 1 v l.length (bools l)) : LiesV w v (bools l) := by
  obtain ⟨a, c, rfl, hc, hh⟩ := own_row h
  refine ⟨a, c, by simp [bools], by simpa [bools] using hc, ?_⟩
  rcases hh with h0 | ⟨b, rfl, hr⟩
  · exact .inl (by rw [List.eq_nil_of_length_eq_zero h0]; rfl)
  · exact .inr ⟨b, 0, rfl, hr⟩
/-- One of its slices, wherever. -/
theorem vv_at {w : World} {a : Option Addr} {n c : Nat} {X : List (List Nat)} (h : LiesVV w (.slice a n c) (X.map bytesV)) {j : Nat} {x : List Nat} (hx : X[j]? = some x) :
    ∃ b off xa xc, a = some ⟨b, off, none⟩ ∧ (∀ u, Only (fun _ => False) w u → u.cell? ⟨b, off + j, none⟩ = some (.slice xa x.length xc)) ∧
      (0 < x.length → ∃ bb oo, xa = some ⟨bb, oo, none⟩ ∧ ∀ u, Only (fun _ => False) w u → ∀ (k y : Nat), x[k]? = some y → u.cell? ⟨bb, oo + k, none⟩ = some (.int .u8 (y : Int))) := by
  obtain ⟨a', c', e, hc, hr⟩ := h
  simp only [Value.slice.injEq] at e
  obtain ⟨rfl, _, _⟩ := e
  have hj : j < X.length := (List.getElem?_eq_some_iff.1 hx).1
  obtain ⟨b, off, rfl, hb, hcell⟩ := hr (by rw [List.length_map]; omega)
  obtain ⟨xv, h1, xa, xc, rfl, h3, h4⟩ := hcell j (bytesV x) (by rw [List.getElem?_map, hx]; rfl)
  have hlen : (bytesV x).length = x.length := by simp [bytesV]
  rw [hlen] at h1 h3
  refine ⟨b, off, xa, xc, rfl, fun u g => by rw [g.cell (p := ⟨b, off + j, none⟩) hb (fun e => e)]; exact h1, fun hp => ?_⟩
  rcases h4 with h4 | ⟨bb, oo, rfl, hrow⟩
  · rw [h4] at hlen; simp at hlen; omega
  · refine ⟨bb, oo, rfl, fun u g k y hy => ?_⟩
    rw [g.cell (p := ⟨bb, oo + k, none⟩) hrow.1 (fun e => e)]
    exact hrow.2 k _ (by unfold bytesV; rw [List.getElem?_map, hy]; rfl)
theorem take_gen {α : Type} {l : List α} {j : Nat} (hj : j < l.length) : ∃ x, l[j]? = some x ∧ l.take (j + 1) = l.take j ++ [x] ∧ x ∈ l :=
  ⟨l[j], List.getElem?_eq_getElem hj, List.take_succ_eq_append_getElem hj, List.getElem_mem hj⟩
/-- What has been counted of the first ones. -/
def doneL (X : List (List Nat)) (j : Nat) : List Nat := ((X.take j).map vals).flatten
theorem doneL_snoc {X : List (List Nat)} {j : Nat} {x : List Nat} (h : X.take (j + 1) = X.take j ++ [x]) : doneL X (j + 1) = doneL X j ++ vals x := by
  unfold doneL; rw [h]; simp
theorem doneL_le {X : List (List Nat)} (h : ∀ x ∈ X, x.length ≤ 12) (j : Nat) : (doneL X j).length ≤ 12 * j := by
  induction j with
  | zero => simp [doneL]
  | succ j ih =>
    rcases Nat.lt_or_ge j X.length with hj | hj
    · obtain ⟨x, hx, hs, hm⟩ := take_gen hj
      rw [doneL_snoc hs, List.length_append, vals_length]
      have := h x hm
      omega
    · unfold doneL at ih ⊢
      rw [List.take_of_length_le (by omega)]
      rw [List.take_of_length_le (by omega)] at ih
      omega
theorem cnt_snoc (m : List Nat) {v : Nat} (h : v < 4096) : (cntL m).set v (((m.count v : Nat) : Int) + 1) = cntL (m ++ [v]) := by
  rw [cnt_cons m h]
  exact cnt_perm (List.perm_append_comm (l₁ := [v]) (l₂ := m))
theorem mg_cnt {E : List Asn} (hE : Frs E) {g c : Nat} {vo vh vt vn : Value} {m : List Nat} {ov : List Bool} {hd : List ByteArray} {tt nn : List Int} {w wr : World} (h : Mg E (.slice (some ⟨g, 0, none⟩) 4096 c) vo vh vt vn (cntL m) ov hd tt nn w wr) {v : Nat} (hv : v < 4096) :
    wr.cell? ⟨g, v, none⟩ = some (.int .i64 ((m.count v : Nat) : Int)) ∧ wr.frozen? ⟨g, v, none⟩ = false ∧ ∀ y : Int, Mg E (.slice (some ⟨g, 0, none⟩) 4096 c) vo vh vt vn ((cntL m).set v y) ov hd tt nn w (wr.setCell ⟨g, v, none⟩ (.int .i64 y)) := by
  have h2 := Mg.cnt hE (g := g) (c := c) (by rw [cnt_length]; exact h) (cnt_at m hv)
  rw [cnt_length] at h2
  exact h2
/-- The outer loop of the first half. -/
def M1 (X : List (List Nat)) (g c : Nat) (w : World) (vh vo vt vn cn i : Value) (wr : World) : Prop :=
  ∃ j : Nat, j ≤ X.length ∧ i = .int .i64 (j : Int) ∧ cn = .int .i64 (((doneL X j).length : Nat) : Int) ∧ (∀ x ∈ X.take j, x.length ≤ 12) ∧
    Mg [] (.slice (some ⟨g, 0, none⟩) 4096 c) vo vh vt vn (cntL (doneL X j)) ((X.take j).map fun x => decide (x.length = 0)) ((X.take j).map fun x => textS (firstN x)) (List.replicate j 0) ((X.take j).map fun x => ((firstN x : Nat) : Int)) w wr
/-- The inner loop. -/
def M2 (D : List Nat) (x : List Nat) (va vh vo vt vn : Value) (ov : List Bool) (hd : List ByteArray) (tt nn : List Int) (w : World) (cn v kk : Value) (wr : World) : Prop :=
  ∃ k : Nat, k ≤ x.length ∧ kk = .int .i64 (k : Int) ∧ v = .int .i64 (((x.take k).sum : Nat) : Int) ∧ cn = .int .i64 ((D.length + k : Nat) : Int) ∧
    Mg [] va vo vh vt vn (cntL (D ++ (vals x).take k)) ov hd tt nn w wr
theorem cnt_nil : cntL [] = List.replicate 4096 0 := by
  unfold cntL
  apply List.ext_getElem?
  intro i
  rw [List.getElem?_map, List.getElem?_replicate]
  by_cases hi : i < 4096
  · simp [hi]
  · simp [hi]
theorem mg_made {w wm : World} (hown : wm.ownsRow 0 3 1 (.slice (some ⟨w.heap.size, 0, none⟩) 4096 4096) 4096 (madeCells (Value.int IntKind.i64 0).cells (4096 * 1)).toList) (hg : w.grownBy wm none) :
    Mg [] (.slice (some ⟨w.heap.size, 0, none⟩) 4096 4096) (.slice none 0 0) (.slice none 0 0) (.slice none 0 0) (.slice none 0 0) (cntL []) [] [] [] [] w wm := by
  have g : Gr w wm := Below.grown (Below.refl _ _) hg (Nat.le_refl _) (fun k e => by cases e)
  have hm : (madeCells (Value.int IntKind.i64 0).cells (4096 * 1)).toList = ints (cntL []) := by
    rw [cnt_nil, show (Value.int IntKind.i64 0).cells = #[Value.int IntKind.i64 0] from rfl, toList_madeCells_one]
    simp [ints]
  rw [hm] at hown
  have hl : (cntL []).length = 4096 := cnt_length _
  refine ⟨fun b => b = w.heap.size, ?_, Only.ofGr g, fun b hb => .inr (by omega)⟩
  have hz : ∀ {P : Asn} {L : List Asn}, P wm (fun _ => False) → stars L wm (fun _ => False) → stars (P :: L) wm (fun _ => False) := fun p q => ⟨_, _, p, q, fun b h => h.elim, fun b => by simp⟩
  refine ⟨fun b => b = w.heap.size, fun _ => False, ⟨by rw [hl]; exact hown, fun b hb => by simp [Value.ownBlock] at hb; omega, fun b hb => ?_⟩, hz (rowE_nil _ _ _) (hz (rowE_nil _ _ _) (hz (rowE_nil _ _ _) (hz (rowE_nil _ _ _) (fun b h => h)))), fun b _ h => h, fun b => by simp⟩
  rw [hb]
  exact (hown.lt w.heap.size rfl).2
end Go.Proofs.Ytifpiekajbcoiaa
