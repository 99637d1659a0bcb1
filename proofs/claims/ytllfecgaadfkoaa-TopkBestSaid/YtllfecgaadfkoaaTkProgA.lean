/- The program's near, asked, Less, Has of near ones: Has by slices.ContainsFunc with a comparison as a function. -/
import Derived.Test.YtllfecgaadfkoaaTkRight
import Derived.Test.YtllfecgaadfkoaaTkArg
namespace Go.Proofs.Ytllfecgaadfkoaa
open Go.RowKit TkPlain
set_option linter.unusedVariables false
set_option linter.unusedSimpArgs false
set_option maxRecDepth 20000
theorem grT (w : World) (o : Obj) : Gr w (w.alloc o) := Below.alloc (Below.refl _ _) (Nat.le_refl _) _
theorem tnear_c (x : Nr) (w : World) :
    Calls Try.prog 23 #[nrV x] w fun e w' => e = .returned (.bool (oneN x)) ∧ Gr w w' := by
  obtain ⟨d, id, nw⟩ := x
  unfold nrV oneN
  dsimp only
  have HG := Lib.hid (grT w (.cells #[.int .i64 d, .int .i64 id, .bool nw] 26))
  go_enter Try.func23, Try.ntmps23
  go_wp2_with fail
  all_goals
    go_ret
    refine ⟨retbT ?_, by have := HG.out; simp_all⟩
    apply Bool.eq_iff_iff.2
    simp
    try omega
theorem tasked_c (k : Int) (w : World) :
    Calls Try.prog 19 #[.int .i64 k] w fun e w' => e = .returned (.bool (kB k)) ∧ w = w' := by
  unfold kB
  go_enter Try.func19, Try.ntmps19
  go_wp2_with fail
  all_goals
    go_ret
    refine ⟨retbT ?_, rfl⟩
    apply Bool.eq_iff_iff.2
    simp
    try omega
set_option maxHeartbeats 1000000 in
theorem tless_c (x y : Nr) (w : World) :
    Calls Try.prog 25 #[nrV x, nrV y] w fun e w' => e = .returned (.bool (lessN x y)) ∧ Gr w w' := by
  obtain ⟨d, id, nw⟩ := x
  obtain ⟨d2, id2, nw2⟩ := y
  unfold nrV lessN
  dsimp only
  have g : Gr w ((w.alloc (.cells #[.int .i64 d, .int .i64 id, .bool nw] 26)).alloc (.cells #[.int .i64 d2, .int .i64 id2, .bool nw2] 26)) := Below.alloc (Below.alloc (Below.refl _ _) (Nat.le_refl _) _) (by simp) _
  have HG := Lib.hid g
  clear g
  go_enter Try.func25, Try.ntmps25
  go_wp2_with fail
  all_goals
    go_ret
    refine ⟨retbT ?_, by have := HG.out; simp_all⟩
    apply Bool.eq_iff_iff.2
    simp
    try omega
/-- The comparison that Has hands on. -/
theorem has1_c (x : Nr) (p : Nat) (id : Int) {w : World} (hp : w.cell? ⟨p, 0, none⟩ = some (.int .i64 id)) :
    Calls Try.prog 15 #[.agg #[.int .i64 x.d, .int .i64 x.id, .bool x.nw], .pointer (some ⟨p, 0, none⟩)] w fun e w' => e = .returned (.bool (x.id == id)) ∧ Gr w w' := by
  have hb := World.block_lt_of_cell? w _ hp
  have hb2 : p < w.heap.size := hb
  have HG := Lib.hid (grT w (.cells #[.int .i64 x.d, .int .i64 x.id, .bool x.nw] 26))
  clear hb
  go_enter Try.func15, Try.ntmps15
  go_wp2_with fail
  go_ret
  exact ⟨rfl, HG.out⟩
/-- What IndexFunc answers: none, or a place. -/
def IdxGot (b : Bool) (w : World) (e : Ending) (w' : World) : Prop := ∃ i : Int, e = .returned (.int .i64 i) ∧ b = decide (0 ≤ i) ∧ Gr w w'
theorem idxGot {b : Bool} {w w' : World} {i : Int} (h : b = decide (0 ≤ i)) (g : Gr w w') : IdxGot b w (.returned (.int .i64 i)) w' := ⟨i, rfl, h, g⟩
def IxAt (l : List Nr) (id : Int) (w : World) (i : Value) (wr : World) : Prop := ∃ j : Nat, j ≤ l.length ∧ i = .int .i64 (j : Int) ∧ hasN (l.take j) id = false ∧ Below w.heap.size w wr
set_option maxHeartbeats 1000000 in
theorem index12_c {w : World} {v : Value} {l : List Nr} (h : LiesN w v l) (hl : l.length ≤ 1000) (p : Nat) (id : Int) (hp : w.cell? ⟨p, 0, none⟩ = some (.int .i64 id)) :
    Calls Try.prog 21 #[v, .func (.func 15) #[] #[.pointer (some ⟨p, 0, none⟩)]] w fun e w' => IdxGot (hasN l id) w e w' := by
  have hpb : p < w.heap.size := World.block_lt_of_cell? w _ hp
  have HP := Lib.hid (fun u (g : Gr w u) => show u.cell? ⟨p, 0, none⟩ = some (.int .i64 id) by rw [Below.cell g (p := ⟨p, 0, none⟩) hpb]; exact hp)
  obtain ⟨a, c, rfl, hc, h⟩ := h
  have H0 : 1 ≤ l.length → ∃ b o, a = some ⟨b, o, none⟩ ∧ NrRow w b o l := fun h1 => h.elim (fun h0 => by rw [h0] at h1; simp at h1) (fun k => k)
  have H := Lib.hid H0
  clear h H0 hp
  go_enter Try.func21, Try.ntmps21
  go_wp2_with fail
  go_loopw [5, 8] (fun _ i wr => IxAt l id w i wr) (fun _ i _ => l.length - (intOf i).toNat)
  case atStart => exact ⟨0, Nat.zero_le _, rfl, rfl, Below.refl _ _⟩
  case round =>
    obtain ⟨j, hj, rfl, hall, hbel⟩ := hrel
    have hsz := hbel.size
    by_cases hlt : j < l.length
    · obtain ⟨x, hx, hstep, hmem⟩ := take_onT hlt
      obtain ⟨b, o, rfl, hv⟩ := H.out (by omega)
      obtain ⟨c1, c2, c3⟩ := (hv.gr (Gr.of hbel)).2 j x hx
      have C0 := has1_c x p id (HP.out wr (Gr.of hbel))
      by_cases he : x.id = id
      · have HX := Lib.hid (show hasN l id = true from hasN_iff.2 ⟨x, hmem, he⟩)
        have t1 : (x.id == id) = true := by simpa using he
        rw [t1] at C0
        have C := Lib.hid C0
        clear hx hstep hmem hall hv he C0 t1
        go_wp2_with fail
        refine C.out.mono ?_; rintro e u ⟨rfl, g⟩
        go_wp2_with fail
        go_ret
        exact idxGot (by rw [HX.out]; symm; rw [decide_eq_true_iff]; omega) (Gr.of (Below.trans hbel (g.mono hsz)))
      · have HX := Lib.hid (show hasN (l.take (j + 1)) id = false by
          unfold hasN at hall ⊢
          rw [hstep, List.any_append, hall]; simpa using he)
        have t1 : (x.id == id) = false := by simpa using he
        rw [t1] at C0
        have C := Lib.hid C0
        clear hx hstep hmem hall hv he C0 t1
        go_wp2_with fail
        refine C.out.mono ?_; rintro e u ⟨rfl, g⟩
        go_wp2_with fail
        refine ⟨⟨j + 1, by omega, rfl, HX.out, Below.trans hbel (g.mono hsz)⟩, ?_⟩
        simp [intOf]; omega
    · obtain rfl : j = l.length := by omega
      rw [List.take_length] at hall
      have HX := Lib.hid hall
      clear hall
      go_wp2_with fail
      go_ret
      exact idxGot (by rw [HX.out]; rfl) (Gr.of hbel)
theorem contains12_c {w : World} {v : Value} {l : List Nr} (h : LiesN w v l) (hl : l.length ≤ 1000) (p : Nat) (id : Int) (hp : w.cell? ⟨p, 0, none⟩ = some (.int .i64 id)) :
    Calls Try.prog 14 #[v, .func (.func 15) #[] #[.pointer (some ⟨p, 0, none⟩)]] w fun e w' => e = .returned (.bool (hasN l id)) ∧ Gr w w' := by
  have C := Lib.hid (index12_c h hl p id hp)
  clear h hp
  go_enter Try.func14, Try.ntmps14
  go_wp2_with fail
  refine C.out.mono ?_; intro e u hi
  obtain ⟨i, rfl, hi, g⟩ := hi
  have HI := Lib.hid hi
  clear hi
  go_wp2_with fail
  go_ret
  exact ⟨retbT HI.out.symm, g⟩
set_option maxHeartbeats 1000000 in
theorem thas_c {w : World} {v : Value} {l : List Nr} (h : LiesN w v l) (hl : l.length ≤ 1000) (id : Int) :
    Calls Try.prog 10 #[v, .int .i64 id] w fun e w' => e = .returned (.bool (hasN l id)) ∧ Gr w w' := by
  have g0 := grT w (.cells #[.int .i64 id] 3)
  have C := Lib.hid (contains12_c (h.gr g0) hl w.heap.size id (by rw [World.cell?_alloc_new]; rfl))
  have G := Lib.hid g0
  clear h g0
  go_enter Try.func10, Try.ntmps10
  go_wp2_with fail
  refine C.out.mono ?_; rintro e u ⟨rfl, g⟩
  go_wp2_with fail
  go_ret
  exact ⟨rfl, G.out.trans g⟩
end Go.Proofs.Ytllfecgaadfkoaa
