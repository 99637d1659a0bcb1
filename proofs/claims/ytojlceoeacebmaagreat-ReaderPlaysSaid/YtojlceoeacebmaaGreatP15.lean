/- In one text: Rfs, RfsPut, RfsOut, RfsFacts. -/
import Derived.Test.YtojlceoeacebmaaGreatP00
import Derived.Laws.AppendOwn
import Derived.Laws.AppendOwnNone
import Derived.RegionTactic
import Derived.BigRegion
import Derived.Lib.Strings
import Derived.Sort.Walk0
import Derived.WideAt
import Derived.WideShapes
/- The document's own disk: files in a slice, by their names' order; what lays one among others, and what leaves one out. -/
namespace Go.Proofs.YtojlceoeacebmaaGreat
open Go.RowKit FsPlain
set_option linter.unusedVariables false
set_option linter.unusedSimpArgs false
set_option maxRecDepth 20000
def fcells (f : F) : List Value := [.string (bs f.name), .string (bs f.data), .int .i64 (f.kept : Int)]
def fagg (f : F) : Value := .agg #[.string (bs f.name), .string (bs f.data), .int .i64 (f.kept : Int)]
def fall3 (l : List F) : List Value := l.flatMap fcells
theorem fall3_snoc (l : List F) (f : F) : fall3 (l ++ [f]) = fall3 l ++ fcells f := by simp [fall3]
theorem fall3_app (a b : List F) : fall3 (a ++ b) = fall3 a ++ fall3 b := by simp [fall3]
theorem fall3_length : ∀ l : List F, (fall3 l).length = l.length * 3
  | [] => rfl
  | f :: r => by rw [show fall3 (f :: r) = fcells f ++ fall3 r from rfl, List.length_append, fall3_length r, List.length_cons]; simp [fcells]; omega
theorem fall3_at : ∀ (l : List F) (j : Nat) (f : F), l[j]? = some f → (fall3 l)[3 * j]? = some (.string (bs f.name)) ∧ (fall3 l)[3 * j + 1]? = some (.string (bs f.data)) ∧ (fall3 l)[3 * j + 2]? = some (.int .i64 (f.kept : Int))
  | [], j, f, h => by simp at h
  | g :: r, 0, f, h => by simp at h; subst h; exact ⟨rfl, rfl, rfl⟩
  | g :: r, j + 1, f, h => by
    have e : fall3 (g :: r) = fcells g ++ fall3 r := rfl
    have hl : (fcells g).length = 3 := rfl
    have := fall3_at r j f (by simpa using h)
    rw [e]
    refine ⟨?_, ?_, ?_⟩
    · rw [List.getElem?_append_right (by omega), hl, show 3 * (j + 1) - 3 = 3 * j by omega]; exact this.1
    · rw [List.getElem?_append_right (by omega), hl, show 3 * (j + 1) + 1 - 3 = 3 * j + 1 by omega]; exact this.2.1
    · rw [List.getElem?_append_right (by omega), hl, show 3 * (j + 1) + 2 - 3 = 3 * j + 2 by omega]; exact this.2.2
/-- Files lie at b, from off on. -/
def FCells (w : World) (b off : Nat) (l : List F) : Prop := b < w.heap.size ∧ ∀ j x, (fall3 l)[j]? = some x → w.cell? ⟨b, off + j, none⟩ = some x
theorem FCells.gr {w w' : World} {b off : Nat} {l : List F} (h : FCells w b off l) (g : Gr w w') : FCells w' b off l :=
  ⟨Nat.lt_of_lt_of_le h.1 g.size, fun j x hj => by rw [Below.cell g (p := ⟨b, off + j, none⟩) h.1]; exact h.2 j x hj⟩
/-- Where v lies is new since w. -/
def NewV (w : World) (v : Value) : Prop := ∀ x, v.ownBlock = some x → w.heap.size ≤ x
theorem own_len (a : Option Addr) (n m c : Nat) : (Value.slice a n c).ownBlock = (Value.slice a m c).ownBlock := by cases a <;> rfl
/-- v is a slice of these files. -/
def FLies (w : World) (v : Value) (l : List F) : Prop := (l = [] ∧ v = .slice none 0 0) ∨ ∃ b off c, v = .slice (some ⟨b, off, none⟩) l.length c ∧ l.length ≤ c ∧ FCells w b off l
theorem FLies.gr {w w' : World} {v : Value} {l : List F} (h : FLies w v l) (g : Gr w w') : FLies w' v l :=
  h.imp id fun ⟨b, off, c, h1, h2, h3⟩ => ⟨b, off, c, h1, h2, h3.gr g⟩
theorem flies_own {w : World} {B : Nat} {v : Value} {l : List F} (h : w.ownsRow B 79 3 v l.length (fall3 l)) : FLies w v l := by
  have hc := @World.ownsRow.cells w _ _ _ _ _ _ h
  have hl := h.lt
  obtain ⟨_, p⟩ := h
  rcases p with ⟨rfl, z⟩ | ⟨g, cap, cur, rfl, _, _, hn, _⟩
  · exact .inl ⟨List.eq_nil_of_length_eq_zero z, rfl⟩
  · refine .inr ⟨g, 0, cap, rfl, hn, (hl g rfl).2, fun j x hj => ?_⟩
    have := hc (g := g) rfl j x hj
    rw [Nat.zero_add]
    have ea : Addr.add ⟨g, 0, none⟩ j = ⟨g, j, none⟩ := by by_cases h : j = 0 <;> simp [Addr.add, h]
    rwa [ea] at this
theorem infoF : (Tryz.prog.info? 79).map (fun i => (i.zero, i.size, i.bytes)) = some (some (.agg #[.string ⟨#[]⟩, .string ⟨#[]⟩, .int .i64 0]), 3, 40) := by kernel_rfl
/-- Is a's name ahead of b's? -/
def lessF (a b : F) : Bool := Op.bytesLess a.name b.name
def putF (f : F) (l : List F) : List F := l.takeWhile (fun y => lessF y f) ++ f :: l.dropWhile (fun y => lessF y f)
theorem putF_at {f : F} {l : List F} {k : Nat} (h1 : ∀ y ∈ l.take k, lessF y f = true) (h2 : ∀ y, l[k]? = some y → lessF y f = false) : putF f l = l.take k ++ f :: l.drop k := by
  have e1 : l.takeWhile (fun y => lessF y f) = l.take k ∧ l.dropWhile (fun y => lessF y f) = l.drop k := by
    have : l.take k ++ l.drop k = l := List.take_append_drop k l
    constructor
    · conv => lhs; rw [← this]
      rw [List.takeWhile_append_of_pos h1]
      have : (l.drop k).takeWhile (fun y => lessF y f) = [] := by
        cases hd : l.drop k with
        | nil => rfl
        | cons y r =>
          have hy : l[k]? = some y := by have := congrArg List.head? hd; simpa using this
          rw [List.takeWhile_cons, h2 y hy]; rfl
      rw [this, List.append_nil]
    · conv => lhs; rw [← this]
      rw [List.dropWhile_append_of_pos h1]
      cases hd : l.drop k with
      | nil => rfl
      | cons y r =>
        have hy : l[k]? = some y := by have := congrArg List.head? hd; simpa using this
        rw [List.dropWhile_cons, h2 y hy]; rfl
  unfold putF
  rw [e1.1, e1.2]
theorem tail_run (b off n c k : Nat) (h1 : k ≤ n) (h2 : n ≤ c) : ∃ o, (k < n → o = off + 3 * k) ∧ ∀ w, (Instr.slice 44 (.slice (some ⟨b, off, none⟩) n c) (some (.int .i64 (k : Int))) none none).run Tryz.prog w = .ok (.slice (some ⟨b, o, none⟩) (n - k) (c - k)) w := by
  have h4 : (k : Int) ≤ (n : Int) := by omega
  have hz : Tryz.prog.cellsOf 79 = 3 := by kernel_rfl
  by_cases hc : c = k
  · refine ⟨off, fun h => by omega, fun w => ?_⟩
    simp [Instr.slice, Instr.sliceBounds, run_underlying Tryz.underlying44, run_underlying Tryz.underlying79, go_sem, sliced, hc, h4, hz]
  · refine ⟨off + 3 * k, fun h => rfl, fun w => ?_⟩
    have ea : Addr.add ⟨b, off, none⟩ (k * 3) = ⟨b, off + 3 * k, none⟩ := by
      rw [Nat.mul_comm k 3]
      by_cases h : 3 * k = 0
      · rw [h]; simp [Addr.add]
      · unfold Addr.add; simp [h]
    simp [Instr.slice, Instr.sliceBounds, run_underlying Tryz.underlying44, run_underlying Tryz.underlying79, go_sem, sliced, hc, h4, hz, h1, ea]
end Go.Proofs.YtojlceoeacebmaaGreat
/- The document's disk: a file laid among others. -/
namespace Go.Proofs.YtojlceoeacebmaaGreat
open Go.RowKit FsPlain
set_option linter.unusedVariables false
set_option linter.unusedSimpArgs false
set_option maxRecDepth 20000
def Put4At (f : F) (l : List F) (w : World) (out i : Value) (wr : World) : Prop :=
  ∃ k : Nat, k ≤ l.length ∧ i = .int .i64 k ∧ (∀ y ∈ l.take k, lessF y f = true) ∧ wr.ownsRow (w.heap.size + 1) 79 3 out k (fall3 (l.take k)) ∧
    wr.heap[w.heap.size]? = some (.cells #[.string (bs f.name), .string (bs f.data), .int .i64 (f.kept : Int)] 79 (0, 0)) ∧ Below w.heap.size w wr
theorem heap_cell {w : World} {b : Nat} {c : Array Value} {T : TypeId} (h : w.heap[b]? = some (.cells c T (0, 0))) (i : Nat) : w.cell? ⟨b, i, none⟩ = c[i]? := by simp [World.cell?, h]
theorem blk_lt2 {w : World} {b : Nat} {o : Obj} (h : w.heap[b]? = some o) : b < w.heap.size := (Array.getElem?_eq_some_iff.1 h).1
theorem less_run (a b : F) : Op.bytesLess (bs a.name).toList (bs b.name).toList = lessF a b := by
  unfold lessF
  rw [Lib.toList_data, Lib.toList_data]
  simp [bs]
theorem fall3_one (l : List F) : ∀ u ∈ fall3 l, u.oneCell' = true := by
  intro u hu
  obtain ⟨f, _, h⟩ := List.mem_flatMap.1 hu
  simp [fcells] at h
  rcases h with rfl | rfl | rfl <;> rfl
theorem fall3_drop (l : List F) (k : Nat) (h : k ≤ l.length) : fall3 (l.drop k) = (fall3 l).drop (3 * k) := by
  have e : fall3 l = fall3 (l.take k) ++ fall3 (l.drop k) := by rw [← fall3_app, List.take_append_drop]
  rw [e, List.drop_left' (by rw [fall3_length, List.length_take]; omega)]
theorem drop_lies {w : World} {b off : Nat} {l : List F} (h : FCells w b off l) (k : Nat) (hk : k ≤ l.length) : ∀ j u, (fall3 (l.drop k))[j]? = some u → w.cell? (Addr.add ⟨b, off + 3 * k, none⟩ j) = some u := by
  intro j u hj
  rw [fall3_drop l k hk, List.getElem?_drop] at hj
  have := h.2 _ _ hj
  have ea : Addr.add ⟨b, off + 3 * k, none⟩ j = ⟨b, off + (3 * k + j), none⟩ := by
    by_cases h : j = 0
    · simp [Addr.add, h]
    · unfold Addr.add; simp [h]; omega
  rw [ea]; exact this
set_option maxRecDepth 20000 in
set_option maxHeartbeats 4000000 in
theorem put_some (f : F) (l : List F) (b off c : Nat) (w : World) (hl : l.length ≤ 300) (hc : l.length ≤ c) (hr : FCells w b off l) :
    Calls Tryz.prog 34 #[.slice (some ⟨b, off, none⟩) l.length c, fagg f] w fun e w' => ∃ v, e = .returned v ∧ FLies w' v (putF f l) ∧ Gr w w' ∧ NewV w v := by
  have hst : Put4At f l w (.slice none 0 0) (.int .i64 0) (w.alloc (.cells #[.string (bs f.name), .string (bs f.data), .int .i64 (f.kept : Int)] 79)) :=
    ⟨0, Nat.zero_le _, rfl, by simp, World.ownsRow_nil _ _ _ _, heap_alloc_new w _, Below.alloc (Below.refl _ _) (Nat.le_refl _) _⟩
  obtain ⟨n, hn⟩ : ∃ n, l.length = n := ⟨_, rfl⟩
  have HN := Lib.hid hn
  have HR := Lib.hid hr
  have HST := Lib.hid hst
  rw [hn] at hl hc ⊢
  unfold fagg
  clear hn hr hst
  go_enter Tryz.func34, Tryz.ntmps34
  go_wp2_with fail
  go_loopw [5, 6] (fun o i wr => Put4At f l w o i wr) (fun _ i _ => n - (intOf i).toNat)
  case atStart => exact HST.out
  case round =>
    obtain ⟨k, hk, rfl, hls, ho, hbx, hb⟩ := hrel
    have hln := HN.out
    have x0 : wr.cell? ⟨w.heap.size, 0, none⟩ = some (.string (bs f.name)) := by rw [heap_cell hbx]; rfl
    have x1 : wr.cell? ⟨w.heap.size, 1, none⟩ = some (.string (bs f.data)) := by rw [heap_cell hbx]; rfl
    have x2 : wr.cell? ⟨w.heap.size, 2, none⟩ = some (.int .i64 (f.kept : Int)) := by rw [heap_cell hbx]; rfl
    obtain ⟨i0, hi, hz0, hz1, hz2⟩ := info_parts infoF
    have HB := Lib.hid hb
    have HO := Lib.hid ho
    have HBX := Lib.hid hbx
    by_cases hgo : ∃ y, l[k]? = some y ∧ lessF y f = true
    · obtain ⟨y, hy, hp⟩ := hgo
      have hlt : k < n := by have := (List.getElem?_eq_some_iff.1 hy).1; omega
      obtain ⟨q0, q1, q2⟩ := fall3_at l k y hy
      have hrw := HR.out.gr (Gr.of hb)
      rw [Nat.mul_comm 3 k] at q0 q1 q2
      have y0 := hrw.2 _ _ q0
      have y1 := hrw.2 _ _ q1
      have y2 := hrw.2 _ _ q2
      rw [← Nat.add_assoc] at y1 y2
      have hcmp := less_run y f
      rw [hp] at hcmp
      have htk : l.take (k + 1) = l.take k ++ [y] := by rw [List.take_add_one, hy]; rfl
      have HLS := Lib.hid hls
      have HTK := Lib.hid htk
      have HP := Lib.hid hp
      clear hls hy q0 q1 q2 hrw hbx hb ho htk hp
      go_wp2_with fail
      go_region
      obtain ⟨V, hV⟩ : ∃ V, V = wr.drew := ⟨_, rfl⟩
      rw [← hV]
      have hoV : V.ownsRow (w.heap.size + 1) 79 3 u5 k (fall3 (l.take k)) := by rw [hV]; exact HO.out
      have hbV : Below w.heap.size w V := by rw [hV]; exact HB.out.drew
      have bxV := Lib.hid (show V.heap[w.heap.size]? = some (.cells #[.string (bs f.name), .string (bs f.data), .int .i64 (f.kept : Int)] 79 (0, 0)) by rw [hV]; exact HBX.out)
      have z0 : V.cell? ⟨b, off + k * 3, none⟩ = some (.string (bs y.name)) := by rw [hV]; exact y0
      have z1 : V.cell? ⟨b, off + k * 3 + 1, none⟩ = some (.string (bs y.data)) := by rw [hV]; exact y1
      have z2 : V.cell? ⟨b, off + k * 3 + 2, none⟩ = some (.int .i64 (y.kept : Int)) := by rw [hV]; exact y2
      have hVs := hbV.size
      have hVl := blk_lt2 bxV.out
      have HBV := Lib.hid hbV
      clear hV y0 y1 y2 x0 x1 x2 hbV
      go_wp2_with (first | (at_builtin; refine wpList_append_own _ rfl _ _ 44 rfl (w.heap.size + 1) 79 i0 (.agg #[.string ⟨#[]⟩, .string ⟨#[]⟩, .int .i64 0]) 3 40 Tryz.underlying44 hi hz0 hz1 hz2 rfl (by decide) _ _ _ rfl (hoV.alloc _) ⟨V.heap.size, 0, none⟩ 1 1 (fcells y) rfl rfl ?c1 ?c2 (by unfold maxLen; omega) (by omega) (by rw [World.size_alloc]; omega) ?_) | go_in)
      case c1 =>
        intro jj u hj
        match jj, hj with
        | 0, hj => simp [fcells] at hj; subst hj; simp [Addr.add]
        | 1, hj => simp [fcells] at hj; subst hj; simp [Addr.add]
        | 2, hj => simp [fcells] at hj; subst hj; simp [Addr.add]
      case c2 => intro u hu; simp [fcells] at hu; rcases hu with rfl | rfl | rfl <;> rfl
      intro v' w' hw hg _
      have hbV' : Below w.heap.size w w' := (HBV.out.alloc hVs _).grown hg (by simp only [World.size_alloc]; omega) (fun q hq => Nat.le_of_succ_le (hoV.lt q hq).1)
      have hbx' : w'.heap[w.heap.size]? = some (.cells #[.string (bs f.name), .string (bs f.data), .int .i64 (f.kept : Int)] 79 (0, 0)) := by
        rw [hg.block w.heap.size (by simp only [World.size_alloc]; omega) (fun q => by have := (hoV.lt _ q.symm).1; omega), heap_alloc_old V _ hVl]
        exact bxV.out
      have HB' := Lib.hid hbV'
      have HX' := Lib.hid hbx'
      have HO' := Lib.hid hw
      clear hw hg hbV' hbx' z0 z1 z2 hoV
      go_wp2_with fail
      refine ⟨⟨k + 1, by omega, by simp, ?_, ?_, HX'.out, HB'.out⟩, ?_⟩
      · rw [HTK.out]
        intro z hz
        rcases List.mem_append.1 hz with h | h
        · exact HLS.out z h
        · rw [List.mem_singleton.1 h]; exact HP.out
      · rw [HTK.out, fall3_snoc]; exact HO'.out
      · simp [intOf]; omega
    · have hend : ∀ y, l[k]? = some y → lessF y f = false := fun y hy => by
        cases hq : lessF y f
        · rfl
        · exact absurd ⟨y, hy, hq⟩ hgo
      have hput := Lib.hid (putF_at hls hend)
      have hrw := Lib.hid (HR.out.gr (Gr.of hb))
      obtain ⟨o, ho3, htail⟩ := tail_run b off n c k (by omega) hc
      have hlt : k < n ∨ k = n := by omega
      rcases hlt with hlt | rfl
      · obtain ⟨y, hy⟩ : ∃ y, l[k]? = some y := ⟨_, List.getElem?_eq_getElem (by omega)⟩
        obtain ⟨q0, q1, q2⟩ := fall3_at l k y hy
        rw [Nat.mul_comm 3 k] at q0
        have y0 := hrw.out.2 _ _ q0
        have hcmp := less_run y f
        rw [hend y hy] at hcmp
        clear hls hy q0 q1 q2 hbx hb ho hend hgo
        go_wp2_with fail
        go_region
        obtain ⟨V, hV⟩ : ∃ V, V = wr.drew := ⟨_, rfl⟩
        rw [← hV]
        have hoV : V.ownsRow (w.heap.size + 1) 79 3 u5 k (fall3 (l.take k)) := by rw [hV]; exact HO.out
        have HBV := Lib.hid (show Below w.heap.size w V by rw [hV]; exact HB.out.drew)
        have bxV := Lib.hid (show V.heap[w.heap.size]? = some (.cells #[.string (bs f.name), .string (bs f.data), .int .i64 (f.kept : Int)] 79 (0, 0)) by rw [hV]; exact HBX.out)
        have HRV := Lib.hid (show FCells V b off l by rw [hV]; exact hrw.out)
        have z0 : V.cell? ⟨w.heap.size, 0, none⟩ = some (.string (bs f.name)) := by rw [hV]; exact x0
        have z1 : V.cell? ⟨w.heap.size, 1, none⟩ = some (.string (bs f.data)) := by rw [hV]; exact x1
        have z2 : V.cell? ⟨w.heap.size, 2, none⟩ = some (.int .i64 (f.kept : Int)) := by rw [hV]; exact x2
        have y0V : V.cell? ⟨b, off + k * 3, none⟩ = some (.string (bs y.name)) := by rw [hV]; exact y0
        have hVs := HBV.out.size
        have hVl := blk_lt2 bxV.out
        clear hV y0 x0 x1 x2
        go_wp2_with (first | (at_builtin; refine wpList_append_own _ rfl _ _ 44 rfl (w.heap.size + 1) 79 i0 (.agg #[.string ⟨#[]⟩, .string ⟨#[]⟩, .int .i64 0]) 3 40 Tryz.underlying44 hi hz0 hz1 hz2 rfl (by decide) _ _ _ rfl (hoV.alloc _) ⟨V.heap.size, 0, none⟩ 1 1 (fcells f) rfl rfl ?c1 ?c2 (by unfold maxLen; omega) (by omega) (by rw [World.size_alloc]; omega) ?_) | go_in)
        case c1 =>
          intro jj u hj
          match jj, hj with
          | 0, hj => simp [fcells] at hj; subst hj; simp [Addr.add]
          | 1, hj => simp [fcells] at hj; subst hj; simp [Addr.add]
          | 2, hj => simp [fcells] at hj; subst hj; simp [Addr.add]
        case c2 => intro u hu; simp [fcells] at hu; rcases hu with rfl | rfl | rfl <;> rfl
        intro v' w' hw hg _
        have g1 := Lib.hid ((HBV.out.alloc hVs _).grown hg (by simp only [World.size_alloc]; omega) (fun q hq => Nat.le_of_succ_le (hoV.lt q hq).1))
        have hrow := Lib.hid (HR.out.gr (Gr.of g1.out))
        rw [← fall3_snoc] at hw
        have hsw : w.heap.size + 1 ≤ w'.heap.size := by have := hg.size; simp only [World.size_alloc] at this; omega
        have HW := Lib.hid hw
        clear hw hg hoV z0 z1 z2
        go_wp2_with (first | (at_builtin; refine wpList_append_own _ rfl _ _ 44 rfl (w.heap.size + 1) 79 i0 (.agg #[.string ⟨#[]⟩, .string ⟨#[]⟩, .int .i64 0]) 3 40 Tryz.underlying44 hi hz0 hz1 hz2 rfl (by decide) _ _ _ rfl HW.out ⟨b, off + 3 * k, none⟩ (n - k) (c - k) (fall3 (l.drop k)) rfl (by rw [fall3_length, List.length_drop, hln]) (drop_lies hrow.out k (by omega)) (fall3_one _) (by unfold maxLen; omega) (by omega) (by omega) ?_) | go_in)
        all_goals
          intro v2 w2 h2 gg _
          have HF := Lib.hid h2
          have G2 := Lib.hid (g1.out.grown gg (by omega) (fun q hq => Nat.le_of_succ_le (HW.out.lt q hq).1))
          clear h2 gg
          go_wp2_with fail
          go_ret
          have hfin := HF.out
          rw [← fall3_app, List.append_assoc, List.singleton_append, ← hput.out, show k + 1 + (n - k) = (putF f l).length by rw [hput.out, List.length_append, List.length_cons, List.length_take, List.length_drop]; omega] at hfin
          exact ⟨v2, rfl, flies_own hfin, Gr.of G2.out, fun x hx => Nat.le_of_succ_le (HF.out.lt x hx).1⟩
      · have hd : l.drop k = [] := by rw [← hln, List.drop_length]
        clear hls hbx hb ho hend hgo
        go_wp2_with fail
        go_region
        obtain ⟨V, hV⟩ : ∃ V, V = wr.drew := ⟨_, rfl⟩
        rw [← hV]
        have hoV : V.ownsRow (w.heap.size + 1) 79 3 u5 k (fall3 (l.take k)) := by rw [hV]; exact HO.out
        have HBV := Lib.hid (show Below w.heap.size w V by rw [hV]; exact HB.out.drew)
        have bxV := Lib.hid (show V.heap[w.heap.size]? = some (.cells #[.string (bs f.name), .string (bs f.data), .int .i64 (f.kept : Int)] 79 (0, 0)) by rw [hV]; exact HBX.out)
        have HRV := Lib.hid (show FCells V b off l by rw [hV]; exact hrw.out)
        have z0 : V.cell? ⟨w.heap.size, 0, none⟩ = some (.string (bs f.name)) := by rw [hV]; exact x0
        have z1 : V.cell? ⟨w.heap.size, 1, none⟩ = some (.string (bs f.data)) := by rw [hV]; exact x1
        have z2 : V.cell? ⟨w.heap.size, 2, none⟩ = some (.int .i64 (f.kept : Int)) := by rw [hV]; exact x2
        have hVs := HBV.out.size
        have hVl := blk_lt2 bxV.out
        clear hV x0 x1 x2
        go_wp2_with (first | (at_builtin; refine wpList_append_own _ rfl _ _ 44 rfl (w.heap.size + 1) 79 i0 (.agg #[.string ⟨#[]⟩, .string ⟨#[]⟩, .int .i64 0]) 3 40 Tryz.underlying44 hi hz0 hz1 hz2 rfl (by decide) _ _ _ rfl (hoV.alloc _) ⟨V.heap.size, 0, none⟩ 1 1 (fcells f) rfl rfl ?c1 ?c2 (by unfold maxLen; omega) (by omega) (by rw [World.size_alloc]; omega) ?_) | go_in)
        case c1 =>
          intro jj u hj
          match jj, hj with
          | 0, hj => simp [fcells] at hj; subst hj; simp [Addr.add]
          | 1, hj => simp [fcells] at hj; subst hj; simp [Addr.add]
          | 2, hj => simp [fcells] at hj; subst hj; simp [Addr.add]
        case c2 => intro u hu; simp [fcells] at hu; rcases hu with rfl | rfl | rfl <;> rfl
        intro v' w' hw hg _
        have g1 := Lib.hid ((HBV.out.alloc hVs _).grown hg (by simp only [World.size_alloc]; omega) (fun q hq => Nat.le_of_succ_le (hoV.lt q hq).1))
        have hrow := Lib.hid (HR.out.gr (Gr.of g1.out))
        rw [← fall3_snoc] at hw
        have hsw : w.heap.size + 1 ≤ w'.heap.size := by have := hg.size; simp only [World.size_alloc] at this; omega
        have HW := Lib.hid hw
        clear hw hg hoV z0 z1 z2
        go_wp2_with (first | (at_builtin; refine wpList_append_own _ rfl _ _ 44 rfl (w.heap.size + 1) 79 i0 (.agg #[.string ⟨#[]⟩, .string ⟨#[]⟩, .int .i64 0]) 3 40 Tryz.underlying44 hi hz0 hz1 hz2 rfl (by decide) _ _ _ rfl HW.out ⟨b, o, none⟩ 0 (c - k) [] rfl (by simp) (by simp) (by simp) (by unfold maxLen; omega) (by omega) (by omega) ?_) | go_in)
        all_goals
          intro v2 w2 h2 gg _
          have HF := Lib.hid h2
          have G2 := Lib.hid (g1.out.grown gg (by omega) (fun q hq => Nat.le_of_succ_le (HW.out.lt q hq).1))
          clear h2 gg
          go_wp2_with fail
          go_ret
          have hfin := HF.out
          have hp := hput.out
          rw [hd] at hp
          rw [← hp, show k + 1 = (putF f l).length by rw [hp, List.length_append, List.length_cons, List.length_take, List.length_nil]; omega] at hfin
          exact ⟨v2, rfl, flies_own hfin, Gr.of G2.out, fun x hx => Nat.le_of_succ_le (HF.out.lt x hx).1⟩
set_option maxRecDepth 20000 in
set_option maxHeartbeats 4000000 in
theorem put_nil (f : F) (w : World) : Calls Tryz.prog 34 #[.slice none 0 0, fagg f] w fun e w' => ∃ v, e = .returned v ∧ FLies w' v [f] ∧ Gr w w' ∧ NewV w v := by
  have hst : Put4At f [] w (.slice none 0 0) (.int .i64 0) (w.alloc (.cells #[.string (bs f.name), .string (bs f.data), .int .i64 (f.kept : Int)] 79)) :=
    ⟨0, Nat.zero_le _, rfl, by simp, World.ownsRow_nil _ _ _ _, heap_alloc_new w _, Below.alloc (Below.refl _ _) (Nat.le_refl _) _⟩
  have HST := Lib.hid hst
  unfold fagg
  clear hst
  go_enter Tryz.func34, Tryz.ntmps34
  go_wp2_with fail
  go_loopw [5, 6] (fun o i wr => Put4At f [] w o i wr) (fun _ i _ => 0)
  case atStart => exact HST.out
  case round =>
    obtain ⟨k, hk, rfl, hls, ho, hbx, hb⟩ := hrel
    obtain rfl : k = 0 := by simpa using hk
    have x0 : wr.cell? ⟨w.heap.size, 0, none⟩ = some (.string (bs f.name)) := by rw [heap_cell hbx]; rfl
    have x1 : wr.cell? ⟨w.heap.size, 1, none⟩ = some (.string (bs f.data)) := by rw [heap_cell hbx]; rfl
    have x2 : wr.cell? ⟨w.heap.size, 2, none⟩ = some (.int .i64 (f.kept : Int)) := by rw [heap_cell hbx]; rfl
    obtain ⟨i0, hi, hz0, hz1, hz2⟩ := info_parts infoF
    have HB := Lib.hid hb
    have HO := Lib.hid ho
    have HBX := Lib.hid hbx
    clear hls hbx hb ho
    go_wp2_with fail
    go_region
    obtain ⟨V, hV⟩ : ∃ V, V = wr.drew := ⟨_, rfl⟩
    rw [← hV]
    have hoV : V.ownsRow (w.heap.size + 1) 79 3 u5 0 (fall3 (([] : List F).take 0)) := by rw [hV]; exact HO.out
    have HBV := Lib.hid (show Below w.heap.size w V by rw [hV]; exact HB.out.drew)
    have bxV := Lib.hid (show V.heap[w.heap.size]? = some (.cells #[.string (bs f.name), .string (bs f.data), .int .i64 (f.kept : Int)] 79 (0, 0)) by rw [hV]; exact HBX.out)
    have z0 : V.cell? ⟨w.heap.size, 0, none⟩ = some (.string (bs f.name)) := by rw [hV]; exact x0
    have z1 : V.cell? ⟨w.heap.size, 1, none⟩ = some (.string (bs f.data)) := by rw [hV]; exact x1
    have z2 : V.cell? ⟨w.heap.size, 2, none⟩ = some (.int .i64 (f.kept : Int)) := by rw [hV]; exact x2
    have hVs := HBV.out.size
    have hVl := blk_lt2 bxV.out
    clear hV x0 x1 x2
    go_wp2_with (first | (at_builtin; refine wpList_append_own _ rfl _ _ 44 rfl (w.heap.size + 1) 79 i0 (.agg #[.string ⟨#[]⟩, .string ⟨#[]⟩, .int .i64 0]) 3 40 Tryz.underlying44 hi hz0 hz1 hz2 rfl (by decide) _ _ _ rfl (hoV.alloc _) ⟨V.heap.size, 0, none⟩ 1 1 (fcells f) rfl rfl ?c1 ?c2 (by unfold maxLen; omega) (by omega) (by rw [World.size_alloc]; omega) ?_) | go_in)
    case c1 =>
      intro jj u hj
      match jj, hj with
      | 0, hj => simp [fcells] at hj; subst hj; simp [Addr.add]
      | 1, hj => simp [fcells] at hj; subst hj; simp [Addr.add]
      | 2, hj => simp [fcells] at hj; subst hj; simp [Addr.add]
    case c2 => intro u hu; simp [fcells] at hu; rcases hu with rfl | rfl | rfl <;> rfl
    intro v' w' hw hg _
    have g1 := Lib.hid ((HBV.out.alloc hVs _).grown hg (by simp only [World.size_alloc]; omega) (fun q hq => Nat.le_of_succ_le (hoV.lt q hq).1))
    rw [← fall3_snoc] at hw
    have hsw : w.heap.size + 1 ≤ w'.heap.size := by have := hg.size; simp only [World.size_alloc] at this; omega
    have HW := Lib.hid hw
    clear hw hg hoV z0 z1 z2
    go_wp2_with (first | (at_builtin; refine wpList_append_own_none rfl _ _ 44 rfl (w.heap.size + 1) 79 i0 3 Tryz.underlying44 hi _ _ _ rfl HW.out rfl ?_) | go_in)
    all_goals
      go_wp2_with fail
      go_ret
      have h1 := HW.out
      have h2 : FLies w' v' [f] := flies_own (l := [f]) (by simpa using h1)
      exact ⟨v', rfl, h2, Gr.of g1.out, fun x hx => Nat.le_of_succ_le (HW.out.lt x hx).1⟩
theorem put4_c (f : F) (l : List F) (v : Value) (w : World) (hl : l.length ≤ 300) (h : FLies w v l) : Calls Tryz.prog 34 #[v, fagg f] w fun e w' => ∃ v, e = .returned v ∧ FLies w' v (putF f l) ∧ Gr w w' ∧ NewV w v := by
  rcases h with ⟨rfl, rfl⟩ | ⟨b, off, c, rfl, hc, hr⟩
  · exact put_nil f w
  · exact put_some f l b off c w hl hc hr
end Go.Proofs.YtojlceoeacebmaaGreat
/- The document's disk: files without one, and a file's place. -/
namespace Go.Proofs.YtojlceoeacebmaaGreat
open Go.RowKit FsPlain
set_option linter.unusedVariables false
set_option linter.unusedSimpArgs false
set_option maxRecDepth 20000
def outF (n : List UInt8) (l : List F) : List F := l.filter fun y => decide (y.name ≠ n)
def OutAt (n : List UInt8) (l : List F) (w : World) (out i : Value) (wr : World) : Prop :=
  ∃ k : Nat, k ≤ l.length ∧ i = .int .i64 k ∧ wr.ownsRow w.heap.size 79 3 out (outF n (l.take k)).length (fall3 (outF n (l.take k))) ∧ Below w.heap.size w wr
theorem outF_len (n : List UInt8) (l : List F) (k : Nat) : (outF n (l.take k)).length ≤ l.length := by
  refine Nat.le_trans (List.length_filter_le _ _) ?_
  rw [List.length_take]; omega
set_option maxRecDepth 20000 in
set_option maxHeartbeats 4000000 in
theorem out_some (nm : List UInt8) (l : List F) (b off c : Nat) (w : World) (hl : l.length ≤ 300) (hc : l.length ≤ c) (hr : FCells w b off l) :
    Calls Tryz.prog 37 #[.slice (some ⟨b, off, none⟩) l.length c, .string (bs nm)] w fun e w' => ∃ v, e = .returned v ∧ FLies w' v (outF nm l) ∧ Gr w w' ∧ NewV w v := by
  have hst : OutAt nm l w (.slice none 0 0) (.int .i64 0) w := ⟨0, Nat.zero_le _, rfl, World.ownsRow_nil _ _ _ _, Below.refl _ _⟩
  obtain ⟨n, hn⟩ : ∃ n, l.length = n := ⟨_, rfl⟩
  have HN := Lib.hid hn
  have HR := Lib.hid hr
  have HST := Lib.hid hst
  rw [hn] at hl hc ⊢
  clear hn hr hst
  go_enter Tryz.func37, Tryz.ntmps37
  go_wp2_with fail
  go_loopw [5, 6] (fun o i wr => OutAt nm l w o i wr) (fun _ i _ => n - (intOf i).toNat)
  case atStart => exact HST.out
  case round =>
    obtain ⟨k, hk, rfl, ho, hb⟩ := hrel
    have hln := HN.out
    obtain ⟨i0, hi, hz0, hz1, hz2⟩ := info_parts infoF
    have HB := Lib.hid hb
    have HO := Lib.hid ho
    by_cases hlt : k < n
    · obtain ⟨y, hy⟩ : ∃ y, l[k]? = some y := ⟨_, List.getElem?_eq_getElem (by omega)⟩
      obtain ⟨q0, q1, q2⟩ := fall3_at l k y hy
      have hrw := HR.out.gr (Gr.of hb)
      rw [Nat.mul_comm 3 k] at q0 q1 q2
      have y0 := hrw.2 _ _ q0
      have y1 := hrw.2 _ _ q1
      have y2 := hrw.2 _ _ q2
      rw [← Nat.add_assoc] at y1 y2
      have htk : l.take (k + 1) = l.take k ++ [y] := by rw [List.take_add_one, hy]; rfl
      have HTK := Lib.hid htk
      have hle := outF_len nm l k
      clear hy q0 q1 q2 hrw hb ho htk
      by_cases heq : y.name = nm
      · have hf := Lib.hid (show outF nm (l.take (k + 1)) = outF nm (l.take k) by rw [HTK.out]; simp [outF, heq])
        subst heq
        go_wp2_with fail
        refine ⟨⟨k + 1, by omega, by simp, ?_, HB.out⟩, ?_⟩
        · rw [hf.out]; exact HO.out
        · simp [intOf]; omega
      · have hbe : ((bs y.name).toList == (bs nm).toList) = false := by rw [Lib.toList_data, Lib.toList_data]; simp [bs, heq]
        have hf := Lib.hid (show outF nm (l.take (k + 1)) = outF nm (l.take k) ++ [y] by rw [HTK.out]; simp [outF, heq])
        obtain ⟨V, hV⟩ : ∃ V, V = wr := ⟨_, rfl⟩
        rw [← hV]
        have hoV : V.ownsRow w.heap.size 79 3 u5 (outF nm (l.take k)).length (fall3 (outF nm (l.take k))) := by rw [hV]; exact HO.out
        have HBV := Lib.hid (show Below w.heap.size w V by rw [hV]; exact HB.out)
        have z0 : V.cell? ⟨b, off + k * 3, none⟩ = some (.string (bs y.name)) := by rw [hV]; exact y0
        have z1 : V.cell? ⟨b, off + k * 3 + 1, none⟩ = some (.string (bs y.data)) := by rw [hV]; exact y1
        have z2 : V.cell? ⟨b, off + k * 3 + 2, none⟩ = some (.int .i64 (y.kept : Int)) := by rw [hV]; exact y2
        have hVs := HBV.out.size
        clear hV y0 y1 y2
        go_wp2_with (first | (at_builtin; refine wpList_append_own _ rfl _ _ 44 rfl w.heap.size 79 i0 (.agg #[.string ⟨#[]⟩, .string ⟨#[]⟩, .int .i64 0]) 3 40 Tryz.underlying44 hi hz0 hz1 hz2 rfl (by decide) _ _ _ rfl (hoV.alloc _) ⟨V.heap.size, 0, none⟩ 1 1 (fcells y) rfl rfl ?c1 ?c2 (by unfold maxLen; omega) (by omega) (by rw [World.size_alloc]; omega) ?_) | go_in)
        case c1 =>
          intro jj u hj
          match jj, hj with
          | 0, hj => simp [fcells] at hj; subst hj; simp [Addr.add]
          | 1, hj => simp [fcells] at hj; subst hj; simp [Addr.add]
          | 2, hj => simp [fcells] at hj; subst hj; simp [Addr.add]
        case c2 => intro u hu; simp [fcells] at hu; rcases hu with rfl | rfl | rfl <;> rfl
        intro v' w' hw hg _
        have HB' := Lib.hid ((HBV.out.alloc hVs _).grown hg (by simp only [World.size_alloc]; omega) (fun q hq => (hoV.lt q hq).1))
        have HO' := Lib.hid hw
        clear hw hg z0 z1 z2 hoV
        go_wp2_with fail
        refine ⟨⟨k + 1, by omega, by simp, ?_, HB'.out⟩, ?_⟩
        · rw [hf.out, fall3_snoc, List.length_append]; exact HO'.out
        · simp [intOf]; omega
    · have hkn : k = n := by omega
      have he := Lib.hid (show outF nm (l.take k) = outF nm l by rw [hkn, ← hln, List.take_length])
      clear hb ho
      go_wp2_with fail
      go_ret
      have h1 := HO.out
      rw [he.out] at h1
      exact ⟨_, rfl, flies_own h1, Gr.of HB.out, fun x hx => (HO.out.lt x hx).1⟩
theorem out_nil (nm : List UInt8) (w : World) : Calls Tryz.prog 37 #[.slice none 0 0, .string (bs nm)] w fun e w' => ∃ v, e = .returned v ∧ FLies w' v [] ∧ Gr w w' ∧ NewV w v := by
  go_enter Tryz.func37, Tryz.ntmps37
  go_wp2_with fail
  go_loopw [5, 6] (fun o i wr => o = .slice none 0 0 ∧ i = .int .i64 0 ∧ wr = w) (fun _ i _ => 0)
  case atStart => exact ⟨rfl, rfl, rfl⟩
  case round =>
    obtain ⟨rfl, rfl, rfl⟩ := hrel
    go_wp2_with fail
    go_ret
    exact ⟨_, rfl, .inl ⟨rfl, rfl⟩, Gr.refl _, fun x hx => by cases hx⟩
theorem out_c (nm : List UInt8) (l : List F) (v : Value) (w : World) (hl : l.length ≤ 300) (h : FLies w v l) : Calls Tryz.prog 37 #[v, .string (bs nm)] w fun e w' => ∃ v, e = .returned v ∧ FLies w' v (outF nm l) ∧ Gr w w' ∧ NewV w v := by
  rcases h with ⟨rfl, rfl⟩ | ⟨b, off, c, rfl, hc, hr⟩
  · exact out_nil nm w
  · exact out_some nm l b off c w hl hc hr
end Go.Proofs.YtojlceoeacebmaaGreat
/- Plain facts on files by their names' order. -/
namespace Go.Proofs.YtojlceoeacebmaaGreat
open FsPlain Go.WideAt
set_option linter.unusedVariables false
set_option linter.unusedSimpArgs false
set_option maxRecDepth 20000
theorem less_before : ∀ a b : List UInt8, Op.bytesLess a b = bytesBefore a b
  | [], [] => rfl
  | [], _ :: _ => rfl
  | _ :: _, [] => rfl
  | a :: r, b :: t => by unfold Op.bytesLess bytesBefore; rw [less_before r t]
theorem lessF_before (a b : F) : lessF a b = bytesBefore a.name b.name := less_before _ _
theorem lessF_irrefl (a : F) : lessF a a = false := by rw [lessF_before]; exact bytes_irrefl _
theorem lessF_trans {a b c : F} (h : lessF a b = true) (k : lessF b c = true) : lessF a c = true := by rw [lessF_before] at *; exact WideShapes.bytes_trans _ _ _ h k
theorem lessF_asymm {a b : F} (h : lessF a b = true) : lessF b a = false := by
  cases k : lessF b a
  · rfl
  · have := lessF_trans h k; rw [lessF_irrefl] at this; cases this
theorem lessF_name {a b c : F} (h : b.name = c.name) : lessF a b = lessF a c := by unfold lessF; rw [h]
theorem lessF_name' {a b c : F} (h : b.name = c.name) : lessF b a = lessF c a := by unfold lessF; rw [h]
def SortF (l : List F) : Prop := l.Pairwise fun a b => lessF a b = true
theorem ins_put (f : F) : ∀ l : List F, (∀ y ∈ l, y.name ≠ f.name) → insF f l = putF f l
  | [], _ => rfl
  | y :: r, h => by
    have hb : (Lit.string f.name).before (.string y.name) = bytesBefore f.name y.name := rfl
    unfold insF
    by_cases hc : bytesBefore f.name y.name = true
    · rw [if_pos (by rw [hb]; exact hc)]
      have : lessF y f = false := lessF_asymm (by rw [lessF_before]; exact hc)
      unfold putF
      simp [this]
    · rw [if_neg (by rw [hb]; exact hc), ins_put f r fun z hz => h z (List.mem_cons_of_mem _ hz)]
      have : lessF y f = true := by
        rw [lessF_before]
        exact (bytes_total y.name f.name (h y (List.mem_cons_self ..))).resolve_right hc
      unfold putF
      simp [this]
theorem put_mid {f : F} {A C : List F} (hA : ∀ y ∈ A, lessF y f = true) (hC : ∀ y ∈ C, lessF f y = true) : putF f (A ++ C) = A ++ f :: C := by
  have h1 : (A ++ C).take A.length = A := by simp
  have h2 : (A ++ C).drop A.length = C := by simp
  have := putF_at (f := f) (l := A ++ C) (k := A.length) (by rw [h1]; exact hA) (fun y hy => by
    rw [List.getElem?_append_right (Nat.le_refl _), Nat.sub_self] at hy
    exact lessF_asymm (hC y (List.mem_of_getElem? hy)))
  rw [h1, h2] at this
  exact this
theorem out_mid {n : List UInt8} {f : F} {A C : List F} (hf : f.name = n) (hA : ∀ y ∈ A, y.name ≠ n) (hC : ∀ y ∈ C, y.name ≠ n) : outF n (A ++ f :: C) = A ++ C := by
  have e : ∀ l : List F, (∀ y ∈ l, y.name ≠ n) → outF n l = l := fun l h => List.filter_eq_self.2 fun y hy => by simpa using h y hy
  unfold outF
  rw [List.filter_append, List.filter_cons_of_neg (by simp [hf])]
  have := e A hA
  have := e C hC
  unfold outF at *
  simp only [*]
theorem upd_put {s : St} (h : s.ok) (hs : SortF s.fs) {n : List UInt8} {f : F} (hf : s.get n = some f) (g : F → F) (hg : (g f).name = f.name) : putF (g f) (outF n s.fs) = (s.upd n g).fs ∧ SortF (s.upd n g).fs := by
  obtain ⟨A, C, he, hn, hA, hC, hu⟩ := get_split h hf
  unfold SortF at hs
  rw [he] at hs
  have hp := List.pairwise_append.1 hs
  have h1 : ∀ y ∈ A, lessF y (g f) = true := fun y hy => by rw [lessF_name hg]; exact hp.2.2 y hy f (List.mem_cons_self ..)
  have h2 : ∀ y ∈ C, lessF (g f) y = true := fun y hy => by rw [lessF_name' hg]; exact (List.pairwise_cons.1 hp.2.1).1 y hy
  rw [hu g, he, out_mid hn hA hC]
  refine ⟨put_mid h1 h2, ?_⟩
  unfold SortF
  refine List.pairwise_append.2 ⟨hp.1, List.pairwise_cons.2 ⟨h2, (List.pairwise_cons.1 hp.2.1).2⟩, fun a ha b hb => ?_⟩
  rcases List.mem_cons.1 hb with rfl | hb
  · exact h1 a ha
  · exact hp.2.2 a ha b (List.mem_cons_of_mem _ hb)
theorem take_less (f : F) (l : List F) : ∀ y ∈ l.takeWhile (fun y => lessF y f), lessF y f = true := fun y hy => by
  induction l with
  | nil => cases hy
  | cons a r ih =>
    rw [List.takeWhile_cons] at hy
    split at hy
    · rename_i h
      rcases List.mem_cons.1 hy with rfl | hy
      · exact h
      · exact ih hy
    · cases hy
theorem sort_put {f : F} : ∀ {l : List F}, SortF l → (∀ y ∈ l, y.name ≠ f.name) → SortF (putF f l)
  | [], _, _ => List.pairwise_singleton _ _
  | y :: r, hs, hn => by
    have hp := List.pairwise_cons.1 hs
    by_cases hc : lessF y f = true
    · have e : putF f (y :: r) = y :: putF f r := by unfold putF; simp [hc]
      rw [e]
      refine List.pairwise_cons.2 ⟨fun z hz => ?_, sort_put hp.2 fun z hz => hn z (List.mem_cons_of_mem _ hz)⟩
      have : z ∈ f :: r := by
        have hperm := insF_perm f r
        rw [ins_put f r fun z hz => hn z (List.mem_cons_of_mem _ hz)] at hperm
        exact hperm.mem_iff.1 hz
      rcases List.mem_cons.1 this with rfl | h
      · exact hc
      · exact hp.1 z h
    · have e : putF f (y :: r) = f :: y :: r := by unfold putF; simp [hc]
      rw [e]
      have hfy : lessF f y = true := by
        rw [lessF_before] at *
        exact (bytes_total y.name f.name (hn y (List.mem_cons_self ..))).resolve_left hc
      refine List.pairwise_cons.2 ⟨fun z hz => ?_, hs⟩
      rcases List.mem_cons.1 hz with rfl | h
      · exact hfy
      · exact lessF_trans hfy (hp.1 z h)
end Go.Proofs.YtojlceoeacebmaaGreat
