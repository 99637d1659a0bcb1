/- In one text: RfsPut. -/
import Derived.Test.YtignfbdgpgidpaaGreatDoorS07
/- The document's disk: a file laid among others. -/
namespace Go.Proofs.YtignfbdgpgidpaaGreatDoor
open Go.RowKit FsPlain
set_option linter.unusedVariables false
set_option linter.unusedSimpArgs false
set_option maxRecDepth 20000
def Put4At (f : F) (l : List F) (w : World) (out i : Value) (wr : World) : Prop :=
  ∃ k : Nat, k ≤ l.length ∧ i = .int .i64 k ∧ (∀ y ∈ l.take k, lessF y f = true) ∧ wr.ownsRow (w.heap.size + 1) 56 3 out k (fall3 (l.take k)) ∧
    wr.heap[w.heap.size]? = some (.cells #[.string (bs f.name), .string (bs f.data), .int .i64 (f.kept : Int)] 56 (0, 0)) ∧ Below w.heap.size w wr
theorem heap_cell {w : World} {b : Nat} {c : Array Value} {T : TypeId} (h : w.heap[b]? = some (.cells c T (0, 0))) (i : Nat) : w.cell? ⟨b, i, none⟩ = c[i]? := by simp [World.cell?, h]
theorem blk_lt2 {w : World} {b : Nat} {o : Obj} (h : w.heap[b]? = some o) : b < w.heap.size := (Array.getElem?_eq_some_iff.1 h).1
theorem less_run (a b : F) : Op.bytesLess (bs a.name).toList (bs b.name).toList = lessF a b := by
  unfold lessF
  rw [Lib.toList_data, Lib.toList_data]
  simp [bs]
theorem fall3_one (l : List F) : ∀ u ∈ fall3 l, u.oneCell' = true := by
  intro u hu
  obtain ⟨f, _, h⟩ := List.mem_flatMap.1 hu
  simp [fcells] at h
  rcases h with rfl | rfl | rfl <;> rfl
theorem fall3_drop (l : List F) (k : Nat) (h : k ≤ l.length) : fall3 (l.drop k) = (fall3 l).drop (3 * k) := by
  have e : fall3 l = fall3 (l.take k) ++ fall3 (l.drop k) := by rw [← fall3_app, List.take_append_drop]
  rw [e, List.drop_left' (by rw [fall3_length, List.length_take]; omega)]
theorem drop_lies {w : World} {b off : Nat} {l : List F} (h : FCells w b off l) (k : Nat) (hk : k ≤ l.length) : ∀ j u, (fall3 (l.drop k))[j]? = some u → w.cell? (Addr.add ⟨b, off + 3 * k, none⟩ j) = some u := by
  intro j u hj
  rw [fall3_drop l k hk, List.getElem?_drop] at hj
  have := h.2 _ _ hj
  have ea : Addr.add ⟨b, off + 3 * k, none⟩ j = ⟨b, off + (3 * k + j), none⟩ := by
    by_cases h : j = 0
    · simp [Addr.add, h]
    · unfold Addr.add; simp [h]; omega
  rw [ea]; exact this
set_option maxRecDepth 20000 in
set_option maxHeartbeats 4000000 in
theorem put_some (f : F) (l : List F) (b off c : Nat) (w : World) (hl : l.length ≤ 300) (hc : l.length ≤ c) (hr : FCells w b off l) :
    Calls Tryz.prog 63 #[.slice (some ⟨b, off, none⟩) l.length c, fagg f] w fun e w' => ∃ v, e = .returned v ∧ FLies w' v (putF f l) ∧ Gr w w' ∧ NewV w v := by
  have hst : Put4At f l w (.slice none 0 0) (.int .i64 0) (w.alloc (.cells #[.string (bs f.name), .string (bs f.data), .int .i64 (f.kept : Int)] 56)) :=
    ⟨0, Nat.zero_le _, rfl, by simp, World.ownsRow_nil _ _ _ _, heap_alloc_new w _, Below.alloc (Below.refl _ _) (Nat.le_refl _) _⟩
  obtain ⟨n, hn⟩ : ∃ n, l.length = n := ⟨_, rfl⟩
  have HN := Lib.hid hn
  have HR := Lib.hid hr
  have HST := Lib.hid hst
  rw [hn] at hl hc ⊢
  unfold fagg
  clear hn hr hst
  go_enter Tryz.func63, Tryz.ntmps63
  go_wp2_with fail
  go_loopw [5, 6] (fun o i wr => Put4At f l w o i wr) (fun _ i _ => n - (intOf i).toNat)
  case atStart => exact HST.out
  case round =>
    obtain ⟨k, hk, rfl, hls, ho, hbx, hb⟩ := hrel
    have hln := HN.out
    have x0 : wr.cell? ⟨w.heap.size, 0, none⟩ = some (.string (bs f.name)) := by rw [heap_cell hbx]; rfl
    have x1 : wr.cell? ⟨w.heap.size, 1, none⟩ = some (.string (bs f.data)) := by rw [heap_cell hbx]; rfl
    have x2 : wr.cell? ⟨w.heap.size, 2, none⟩ = some (.int .i64 (f.kept : Int)) := by rw [heap_cell hbx]; rfl
    obtain ⟨i0, hi, hz0, hz1, hz2⟩ := info_parts infoF
    have HB := Lib.hid hb
    have HO := Lib.hid ho
    have HBX := Lib.hid hbx
    by_cases hgo : ∃ y, l[k]? = some y ∧ lessF y f = true
    · obtain ⟨y, hy, hp⟩ := hgo
      have hlt : k < n := by have := (List.getElem?_eq_some_iff.1 hy).1; omega
      obtain ⟨q0, q1, q2⟩ := fall3_at l k y hy
      have hrw := HR.out.gr (Gr.of hb)
      rw [Nat.mul_comm 3 k] at q0 q1 q2
      have y0 := hrw.2 _ _ q0
      have y1 := hrw.2 _ _ q1
      have y2 := hrw.2 _ _ q2
      rw [← Nat.add_assoc] at y1 y2
      have hcmp := less_run y f
      rw [hp] at hcmp
      have htk : l.take (k + 1) = l.take k ++ [y] := by rw [List.take_add_one, hy]; rfl
      have HLS := Lib.hid hls
      have HTK := Lib.hid htk
      have HP := Lib.hid hp
      clear hls hy q0 q1 q2 hrw hbx hb ho htk hp
      go_wp2_with fail
      go_region
      obtain ⟨V, hV⟩ : ∃ V, V = wr.drew := ⟨_, rfl⟩
      rw [← hV]
      have hoV : V.ownsRow (w.heap.size + 1) 56 3 u5 k (fall3 (l.take k)) := by rw [hV]; exact HO.out
      have hbV : Below w.heap.size w V := by rw [hV]; exact HB.out.drew
      have bxV := Lib.hid (show V.heap[w.heap.size]? = some (.cells #[.string (bs f.name), .string (bs f.data), .int .i64 (f.kept : Int)] 56 (0, 0)) by rw [hV]; exact HBX.out)
      have z0 : V.cell? ⟨b, off + k * 3, none⟩ = some (.string (bs y.name)) := by rw [hV]; exact y0
      have z1 : V.cell? ⟨b, off + k * 3 + 1, none⟩ = some (.string (bs y.data)) := by rw [hV]; exact y1
      have z2 : V.cell? ⟨b, off + k * 3 + 2, none⟩ = some (.int .i64 (y.kept : Int)) := by rw [hV]; exact y2
      have hVs := hbV.size
      have hVl := blk_lt2 bxV.out
      have HBV := Lib.hid hbV
      clear hV y0 y1 y2 x0 x1 x2 hbV
      go_wp2_with (first | (at_builtin; refine wpList_append_own _ rfl _ _ 22 rfl (w.heap.size + 1) 56 i0 (.agg #[.string ⟨#[]⟩, .string ⟨#[]⟩, .int .i64 0]) 3 40 Tryz.underlying22 hi hz0 hz1 hz2 rfl (by decide) _ _ _ rfl (hoV.alloc _) ⟨V.heap.size, 0, none⟩ 1 1 (fcells y) rfl rfl ?c1 ?c2 (by unfold maxLen; omega) (by omega) (by rw [World.size_alloc]; omega) ?_) | go_in)
      case c1 =>
        intro jj u hj
        match jj, hj with
        | 0, hj => simp [fcells] at hj; subst hj; simp [Addr.add]
        | 1, hj => simp [fcells] at hj; subst hj; simp [Addr.add]
        | 2, hj => simp [fcells] at hj; subst hj; simp [Addr.add]
      case c2 => intro u hu; simp [fcells] at hu; rcases hu with rfl | rfl | rfl <;> rfl
      intro v' w' hw hg _
      have hbV' : Below w.heap.size w w' := (HBV.out.alloc hVs _).grown hg (by simp only [World.size_alloc]; omega) (fun q hq => Nat.le_of_succ_le (hoV.lt q hq).1)
      have hbx' : w'.heap[w.heap.size]? = some (.cells #[.string (bs f.name), .string (bs f.data), .int .i64 (f.kept : Int)] 56 (0, 0)) := by
        rw [hg.block w.heap.size (by simp only [World.size_alloc]; omega) (fun q => by have := (hoV.lt _ q.symm).1; omega), Below.heap_alloc V _ _ hVl]
        exact bxV.out
      have HB' := Lib.hid hbV'
      have HX' := Lib.hid hbx'
      have HO' := Lib.hid hw
      clear hw hg hbV' hbx' z0 z1 z2 hoV
      go_wp2_with fail
      refine ⟨⟨k + 1, by omega, by simp, ?_, ?_, HX'.out, HB'.out⟩, ?_⟩
      · rw [HTK.out]
        intro z hz
        rcases List.mem_append.1 hz with h | h
        · exact HLS.out z h
        · rw [List.mem_singleton.1 h]; exact HP.out
      · rw [HTK.out, fall3_snoc]; exact HO'.out
      · simp [intOf]; omega
    · have hend : ∀ y, l[k]? = some y → lessF y f = false := fun y hy => by
        cases hq : lessF y f
        · rfl
        · exact absurd ⟨y, hy, hq⟩ hgo
      have hput := Lib.hid (putF_at hls hend)
      have hrw := Lib.hid (HR.out.gr (Gr.of hb))
      obtain ⟨o, ho3, htail⟩ := tail_run b off n c k (by omega) hc
      have hlt : k < n ∨ k = n := by omega
      rcases hlt with hlt | rfl
      · obtain ⟨y, hy⟩ : ∃ y, l[k]? = some y := ⟨_, List.getElem?_eq_getElem (by omega)⟩
        obtain ⟨q0, q1, q2⟩ := fall3_at l k y hy
        rw [Nat.mul_comm 3 k] at q0
        have y0 := hrw.out.2 _ _ q0
        have hcmp := less_run y f
        rw [hend y hy] at hcmp
        clear hls hy q0 q1 q2 hbx hb ho hend hgo
        go_wp2_with fail
        go_region
        obtain ⟨V, hV⟩ : ∃ V, V = wr.drew := ⟨_, rfl⟩
        rw [← hV]
        have hoV : V.ownsRow (w.heap.size + 1) 56 3 u5 k (fall3 (l.take k)) := by rw [hV]; exact HO.out
        have HBV := Lib.hid (show Below w.heap.size w V by rw [hV]; exact HB.out.drew)
        have bxV := Lib.hid (show V.heap[w.heap.size]? = some (.cells #[.string (bs f.name), .string (bs f.data), .int .i64 (f.kept : Int)] 56 (0, 0)) by rw [hV]; exact HBX.out)
        have HRV := Lib.hid (show FCells V b off l by rw [hV]; exact hrw.out)
        have z0 : V.cell? ⟨w.heap.size, 0, none⟩ = some (.string (bs f.name)) := by rw [hV]; exact x0
        have z1 : V.cell? ⟨w.heap.size, 1, none⟩ = some (.string (bs f.data)) := by rw [hV]; exact x1
        have z2 : V.cell? ⟨w.heap.size, 2, none⟩ = some (.int .i64 (f.kept : Int)) := by rw [hV]; exact x2
        have y0V : V.cell? ⟨b, off + k * 3, none⟩ = some (.string (bs y.name)) := by rw [hV]; exact y0
        have hVs := HBV.out.size
        have hVl := blk_lt2 bxV.out
        clear hV y0 x0 x1 x2
        go_wp2_with (first | (at_builtin; refine wpList_append_own _ rfl _ _ 22 rfl (w.heap.size + 1) 56 i0 (.agg #[.string ⟨#[]⟩, .string ⟨#[]⟩, .int .i64 0]) 3 40 Tryz.underlying22 hi hz0 hz1 hz2 rfl (by decide) _ _ _ rfl (hoV.alloc _) ⟨V.heap.size, 0, none⟩ 1 1 (fcells f) rfl rfl ?c1 ?c2 (by unfold maxLen; omega) (by omega) (by rw [World.size_alloc]; omega) ?_) | go_in)
        case c1 =>
          intro jj u hj
          match jj, hj with
          | 0, hj => simp [fcells] at hj; subst hj; simp [Addr.add]
          | 1, hj => simp [fcells] at hj; subst hj; simp [Addr.add]
          | 2, hj => simp [fcells] at hj; subst hj; simp [Addr.add]
        case c2 => intro u hu; simp [fcells] at hu; rcases hu with rfl | rfl | rfl <;> rfl
        intro v' w' hw hg _
        have g1 := Lib.hid ((HBV.out.alloc hVs _).grown hg (by simp only [World.size_alloc]; omega) (fun q hq => Nat.le_of_succ_le (hoV.lt q hq).1))
        have hrow := Lib.hid (HR.out.gr (Gr.of g1.out))
        rw [← fall3_snoc] at hw
        have hsw : w.heap.size + 1 ≤ w'.heap.size := by have := hg.size; simp only [World.size_alloc] at this; omega
        have HW := Lib.hid hw
        clear hw hg hoV z0 z1 z2
        go_wp2_with (first | (at_builtin; refine wpList_append_own _ rfl _ _ 22 rfl (w.heap.size + 1) 56 i0 (.agg #[.string ⟨#[]⟩, .string ⟨#[]⟩, .int .i64 0]) 3 40 Tryz.underlying22 hi hz0 hz1 hz2 rfl (by decide) _ _ _ rfl HW.out ⟨b, off + 3 * k, none⟩ (n - k) (c - k) (fall3 (l.drop k)) rfl (by rw [fall3_length, List.length_drop, hln]) (drop_lies hrow.out k (by omega)) (fall3_one _) (by unfold maxLen; omega) (by omega) (by omega) ?_) | go_in)
        all_goals
          intro v2 w2 h2 gg _
          have HF := Lib.hid h2
          have G2 := Lib.hid (g1.out.grown gg (by omega) (fun q hq => Nat.le_of_succ_le (HW.out.lt q hq).1))
          clear h2 gg
          go_wp2_with fail
          go_ret
          have hfin := HF.out
          rw [← fall3_app, List.append_assoc, List.singleton_append, ← hput.out, show k + 1 + (n - k) = (putF f l).length by rw [hput.out, List.length_append, List.length_cons, List.length_take, List.length_drop]; omega] at hfin
          exact ⟨v2, rfl, flies_own hfin, Gr.of G2.out, fun x hx => Nat.le_of_succ_le (HF.out.lt x hx).1⟩
      · have hd : l.drop k = [] := by rw [← hln, List.drop_length]
        clear hls hbx hb ho hend hgo
        go_wp2_with fail
        go_region
        obtain ⟨V, hV⟩ : ∃ V, V = wr.drew := ⟨_, rfl⟩
        rw [← hV]
        have hoV : V.ownsRow (w.heap.size + 1) 56 3 u5 k (fall3 (l.take k)) := by rw [hV]; exact HO.out
        have HBV := Lib.hid (show Below w.heap.size w V by rw [hV]; exact HB.out.drew)
        have bxV := Lib.hid (show V.heap[w.heap.size]? = some (.cells #[.string (bs f.name), .string (bs f.data), .int .i64 (f.kept : Int)] 56 (0, 0)) by rw [hV]; exact HBX.out)
        have HRV := Lib.hid (show FCells V b off l by rw [hV]; exact hrw.out)
        have z0 : V.cell? ⟨w.heap.size, 0, none⟩ = some (.string (bs f.name)) := by rw [hV]; exact x0
        have z1 : V.cell? ⟨w.heap.size, 1, none⟩ = some (.string (bs f.data)) := by rw [hV]; exact x1
        have z2 : V.cell? ⟨w.heap.size, 2, none⟩ = some (.int .i64 (f.kept : Int)) := by rw [hV]; exact x2
        have hVs := HBV.out.size
        have hVl := blk_lt2 bxV.out
        clear hV x0 x1 x2
        go_wp2_with (first | (at_builtin; refine wpList_append_own _ rfl _ _ 22 rfl (w.heap.size + 1) 56 i0 (.agg #[.string ⟨#[]⟩, .string ⟨#[]⟩, .int .i64 0]) 3 40 Tryz.underlying22 hi hz0 hz1 hz2 rfl (by decide) _ _ _ rfl (hoV.alloc _) ⟨V.heap.size, 0, none⟩ 1 1 (fcells f) rfl rfl ?c1 ?c2 (by unfold maxLen; omega) (by omega) (by rw [World.size_alloc]; omega) ?_) | go_in)
        case c1 =>
          intro jj u hj
          match jj, hj with
          | 0, hj => simp [fcells] at hj; subst hj; simp [Addr.add]
          | 1, hj => simp [fcells] at hj; subst hj; simp [Addr.add]
          | 2, hj => simp [fcells] at hj; subst hj; simp [Addr.add]
        case c2 => intro u hu; simp [fcells] at hu; rcases hu with rfl | rfl | rfl <;> rfl
        intro v' w' hw hg _
        have g1 := Lib.hid ((HBV.out.alloc hVs _).grown hg (by simp only [World.size_alloc]; omega) (fun q hq => Nat.le_of_succ_le (hoV.lt q hq).1))
        have hrow := Lib.hid (HR.out.gr (Gr.of g1.out))
        rw [← fall3_snoc] at hw
        have hsw : w.heap.size + 1 ≤ w'.heap.size := by have := hg.size; simp only [World.size_alloc] at this; omega
        have HW := Lib.hid hw
        clear hw hg hoV z0 z1 z2
        go_wp2_with (first | (at_builtin; refine wpList_append_own _ rfl _ _ 22 rfl (w.heap.size + 1) 56 i0 (.agg #[.string ⟨#[]⟩, .string ⟨#[]⟩, .int .i64 0]) 3 40 Tryz.underlying22 hi hz0 hz1 hz2 rfl (by decide) _ _ _ rfl HW.out ⟨b, o, none⟩ 0 (c - k) [] rfl (by simp) (by simp) (by simp) (by unfold maxLen; omega) (by omega) (by omega) ?_) | go_in)
        all_goals
          intro v2 w2 h2 gg _
          have HF := Lib.hid h2
          have G2 := Lib.hid (g1.out.grown gg (by omega) (fun q hq => Nat.le_of_succ_le (HW.out.lt q hq).1))
          clear h2 gg
          go_wp2_with fail
          go_ret
          have hfin := HF.out
          have hp := hput.out
          rw [hd] at hp
          rw [← hp, show k + 1 = (putF f l).length by rw [hp, List.length_append, List.length_cons, List.length_take, List.length_nil]; omega] at hfin
          exact ⟨v2, rfl, flies_own hfin, Gr.of G2.out, fun x hx => Nat.le_of_succ_le (HF.out.lt x hx).1⟩
set_option maxRecDepth 20000 in
set_option maxHeartbeats 4000000 in
theorem put_nil (f : F) (w : World) : Calls Tryz.prog 63 #[.slice none 0 0, fagg f] w fun e w' => ∃ v, e = .returned v ∧ FLies w' v [f] ∧ Gr w w' ∧ NewV w v := by
  have hst : Put4At f [] w (.slice none 0 0) (.int .i64 0) (w.alloc (.cells #[.string (bs f.name), .string (bs f.data), .int .i64 (f.kept : Int)] 56)) :=
    ⟨0, Nat.zero_le _, rfl, by simp, World.ownsRow_nil _ _ _ _, heap_alloc_new w _, Below.alloc (Below.refl _ _) (Nat.le_refl _) _⟩
  have HST := Lib.hid hst
  unfold fagg
  clear hst
  go_enter Tryz.func63, Tryz.ntmps63
  go_wp2_with fail
  go_loopw [5, 6] (fun o i wr => Put4At f [] w o i wr) (fun _ i _ => 0)
  case atStart => exact HST.out
  case round =>
    obtain ⟨k, hk, rfl, hls, ho, hbx, hb⟩ := hrel
    obtain rfl : k = 0 := by simpa using hk
    have x0 : wr.cell? ⟨w.heap.size, 0, none⟩ = some (.string (bs f.name)) := by rw [heap_cell hbx]; rfl
    have x1 : wr.cell? ⟨w.heap.size, 1, none⟩ = some (.string (bs f.data)) := by rw [heap_cell hbx]; rfl
    have x2 : wr.cell? ⟨w.heap.size, 2, none⟩ = some (.int .i64 (f.kept : Int)) := by rw [heap_cell hbx]; rfl
    obtain ⟨i0, hi, hz0, hz1, hz2⟩ := info_parts infoF
    have HB := Lib.hid hb
    have HO := Lib.hid ho
    have HBX := Lib.hid hbx
    clear hls hbx hb ho
    go_wp2_with fail
    go_region
    obtain ⟨V, hV⟩ : ∃ V, V = wr.drew := ⟨_, rfl⟩
    rw [← hV]
    have hoV : V.ownsRow (w.heap.size + 1) 56 3 u5 0 (fall3 (([] : List F).take 0)) := by rw [hV]; exact HO.out
    have HBV := Lib.hid (show Below w.heap.size w V by rw [hV]; exact HB.out.drew)
    have bxV := Lib.hid (show V.heap[w.heap.size]? = some (.cells #[.string (bs f.name), .string (bs f.data), .int .i64 (f.kept : Int)] 56 (0, 0)) by rw [hV]; exact HBX.out)
    have z0 : V.cell? ⟨w.heap.size, 0, none⟩ = some (.string (bs f.name)) := by rw [hV]; exact x0
    have z1 : V.cell? ⟨w.heap.size, 1, none⟩ = some (.string (bs f.data)) := by rw [hV]; exact x1
    have z2 : V.cell? ⟨w.heap.size, 2, none⟩ = some (.int .i64 (f.kept : Int)) := by rw [hV]; exact x2
    have hVs := HBV.out.size
    have hVl := blk_lt2 bxV.out
    clear hV x0 x1 x2
    go_wp2_with (first | (at_builtin; refine wpList_append_own _ rfl _ _ 22 rfl (w.heap.size + 1) 56 i0 (.agg #[.string ⟨#[]⟩, .string ⟨#[]⟩, .int .i64 0]) 3 40 Tryz.underlying22 hi hz0 hz1 hz2 rfl (by decide) _ _ _ rfl (hoV.alloc _) ⟨V.heap.size, 0, none⟩ 1 1 (fcells f) rfl rfl ?c1 ?c2 (by unfold maxLen; omega) (by omega) (by rw [World.size_alloc]; omega) ?_) | go_in)
    case c1 =>
      intro jj u hj
      match jj, hj with
      | 0, hj => simp [fcells] at hj; subst hj; simp [Addr.add]
      | 1, hj => simp [fcells] at hj; subst hj; simp [Addr.add]
      | 2, hj => simp [fcells] at hj; subst hj; simp [Addr.add]
    case c2 => intro u hu; simp [fcells] at hu; rcases hu with rfl | rfl | rfl <;> rfl
    intro v' w' hw hg _
    have g1 := Lib.hid ((HBV.out.alloc hVs _).grown hg (by simp only [World.size_alloc]; omega) (fun q hq => Nat.le_of_succ_le (hoV.lt q hq).1))
    rw [← fall3_snoc] at hw
    have hsw : w.heap.size + 1 ≤ w'.heap.size := by have := hg.size; simp only [World.size_alloc] at this; omega
    have HW := Lib.hid hw
    clear hw hg hoV z0 z1 z2
    go_wp2_with (first | (at_builtin; refine wpList_append_own_none rfl _ _ 22 rfl (w.heap.size + 1) 56 i0 3 Tryz.underlying22 hi _ _ _ rfl HW.out rfl ?_) | go_in)
    all_goals
      go_wp2_with fail
      go_ret
      have h1 := HW.out
      have h2 : FLies w' v' [f] := flies_own (l := [f]) (by simpa using h1)
      exact ⟨v', rfl, h2, Gr.of g1.out, fun x hx => Nat.le_of_succ_le (HW.out.lt x hx).1⟩
theorem put4_c (f : F) (l : List F) (v : Value) (w : World) (hl : l.length ≤ 300) (h : FLies w v l) : Calls Tryz.prog 63 #[v, fagg f] w fun e w' => ∃ v, e = .returned v ∧ FLies w' v (putF f l) ∧ Gr w w' ∧ NewV w v := by
  rcases h with ⟨rfl, rfl⟩ | ⟨b, off, c, rfl, hc, hr⟩
  · exact put_nil f w
  · exact put_some f l b off c w hl hc hr
end Go.Proofs.YtignfbdgpgidpaaGreatDoor
