/- Slices of near ones in memory, whoever made them; the document's One, Less, Has. -/
import Derived.Test.YtllfecgaadfkoaaArgs
import Derived.Test.YtllfecgaadfkoaaTkPlain
import Derived.Test.YtllfecgaadfkoaaOnly
import Derived.Maps.AppendAt
namespace Go.Proofs.Ytllfecgaadfkoaa
open Go.RowKit TkPlain
set_option linter.unusedVariables false
set_option linter.unusedSimpArgs false
set_option maxRecDepth 20000
def nrV (x : Nr) : Value := .agg #[.int .i64 x.d, .int .i64 x.id, .bool x.nw]
/-- A near one lies at b, from o on. -/
def NrAt (w : World) (b o : Nat) (x : Nr) : Prop := w.cell? ⟨b, o, none⟩ = some (.int .i64 x.d) ∧ w.cell? ⟨b, o + 1, none⟩ = some (.int .i64 x.id) ∧ w.cell? ⟨b, o + 2, none⟩ = some (.bool x.nw)
/-- Near ones lie at b, from o on, one behind the other. -/
def NrRow (w : World) (b o : Nat) (l : List Nr) : Prop := b < w.heap.size ∧ ∀ (j : Nat) (x : Nr), l[j]? = some x → NrAt w b (o + j * 3) x
theorem NrAt.gr {w w' : World} {b o : Nat} {x : Nr} (hb : b < w.heap.size) (h : NrAt w b o x) (g : Gr w w') : NrAt w' b o x :=
  ⟨(Below.cell g (p := ⟨b, o, none⟩) hb).trans h.1, (Below.cell g (p := ⟨b, o + 1, none⟩) hb).trans h.2.1, (Below.cell g (p := ⟨b, o + 2, none⟩) hb).trans h.2.2⟩
theorem NrRow.gr {w w' : World} {b o : Nat} {l : List Nr} (h : NrRow w b o l) (g : Gr w w') : NrRow w' b o l :=
  ⟨Nat.lt_of_lt_of_le h.1 g.size, fun j x hj => (h.2 j x hj).gr h.1 g⟩
/-- v is a slice of these near ones. -/
def LiesN (w : World) (v : Value) (l : List Nr) : Prop := ∃ a c, v = .slice a l.length c ∧ l.length ≤ c ∧ (l = [] ∨ ∃ b o, a = some ⟨b, o, none⟩ ∧ NrRow w b o l)
theorem LiesN.gr {w w' : World} {v : Value} {l : List Nr} (h : LiesN w v l) (g : Gr w w') : LiesN w' v l := by
  obtain ⟨a, c, rfl, hc, h⟩ := h
  refine ⟨a, c, rfl, hc, h.imp id ?_⟩
  rintro ⟨b, o, rfl, hr⟩
  exact ⟨b, o, rfl, hr.gr g⟩
theorem retbT {a b : Bool} (h : a = b) : Ending.returned (.bool a) = .returned (.bool b) := by rw [h]
theorem rone_c (x : Nr) (w : World) :
    Calls Try.prog 5 #[nrV x] w fun e w' => e = .returned (.bool (oneN x)) ∧ Gr w w' := by
  obtain ⟨d, id, nw⟩ := x
  unfold nrV oneN
  dsimp only
  go_enter Try.func5, Try.ntmps5
  go_wp2_with fail
  all_goals
    go_ret
    refine ⟨retbT ?_, Below.alloc (Below.refl _ _) (Nat.le_refl _) _⟩
    apply Bool.eq_iff_iff.2
    simp
    try omega
set_option maxHeartbeats 1000000 in
theorem rless_c (x y : Nr) (w : World) :
    Calls Try.prog 9 #[nrV x, nrV y] w fun e w' => e = .returned (.bool (lessN x y)) ∧ Gr w w' := by
  obtain ⟨d, id, nw⟩ := x
  obtain ⟨d2, id2, nw2⟩ := y
  unfold nrV lessN
  dsimp only
  have g : Gr w ((w.alloc (.cells #[.int .i64 d, .int .i64 id, .bool nw] 26)).alloc (.cells #[.int .i64 d2, .int .i64 id2, .bool nw2] 26)) := Below.alloc (Below.alloc (Below.refl _ _) (Nat.le_refl _) _) (by simp) _
  have HG := Lib.hid g
  clear g
  go_enter Try.func9, Try.ntmps9
  go_wp2_with fail
  all_goals
    go_ret
    refine ⟨retbT ?_, by have := HG.out; simp_all⟩
    apply Bool.eq_iff_iff.2
    simp
    try omega
def HsAt (l : List Nr) (id : Int) (w : World) (i : Value) (wr : World) : Prop := ∃ j : Nat, j ≤ l.length ∧ i = .int .i64 (j : Int) ∧ hasN (l.take j) id = false ∧ wr = w
theorem take_onT {α : Type} {l : List α} {j : Nat} (hj : j < l.length) : ∃ x, l[j]? = some x ∧ l.take (j + 1) = l.take j ++ [x] ∧ x ∈ l :=
  ⟨l[j], List.getElem?_eq_getElem hj, List.take_succ_eq_append_getElem hj, List.getElem_mem hj⟩
set_option maxHeartbeats 1000000 in
theorem rhas12_c {w : World} {v : Value} {l : List Nr} (h : LiesN w v l) (hl : l.length ≤ 1000000) (id : Int) :
    Calls Try.prog 6 #[v, .int .i64 id] w fun e w' => e = .returned (.bool (hasN l id)) ∧ w = w' := by
  obtain ⟨a, c, rfl, hc, h⟩ := h
  have H0 : 1 ≤ l.length → ∃ b o, a = some ⟨b, o, none⟩ ∧ NrRow w b o l := fun h1 => h.elim (fun h0 => by rw [h0] at h1; simp at h1) (fun k => k)
  have H := Lib.hid H0
  clear h H0
  go_enter Try.func6, Try.ntmps6
  go_wp2_with fail
  go_loopw [5] (fun i wr => HsAt l id w i wr) (fun i _ => l.length - (intOf i).toNat)
  case atStart => exact ⟨0, Nat.zero_le _, rfl, rfl, rfl⟩
  case round =>
    obtain ⟨j, hj, rfl, hall, rfl⟩ := hrel
    by_cases hlt : j < l.length
    · obtain ⟨x, hx, hstep, hmem⟩ := take_onT hlt
      obtain ⟨b, o, rfl, hv⟩ := H.out (by omega)
      obtain ⟨c1, c2, c3⟩ := hv.2 j x hx
      by_cases he : x.id = id
      · have HX := Lib.hid (show hasN l id = true from hasN_iff.2 ⟨x, hmem, he⟩)
        have t1 : (x.id == id) = true := by simpa using he
        clear hx hstep hmem hall hv he
        go_wp2_with fail
        go_ret
        exact ⟨retbT HX.out.symm, rfl⟩
      · have HX := Lib.hid (show hasN (l.take (j + 1)) id = false by
          unfold hasN at hall ⊢
          rw [hstep, List.any_append, hall]; simpa using he)
        have t1 : (x.id == id) = false := by simpa using he
        clear hx hstep hmem hall hv he
        go_wp2_with fail
        refine ⟨⟨j + 1, by omega, rfl, HX.out, rfl⟩, ?_⟩
        simp [intOf]; omega
    · obtain rfl : j = l.length := by omega
      rw [List.take_length] at hall
      have HX := Lib.hid hall
      clear hall
      go_wp2_with fail
      go_ret
      exact ⟨retbT HX.out.symm, rfl⟩
end Go.Proofs.Ytllfecgaadfkoaa
