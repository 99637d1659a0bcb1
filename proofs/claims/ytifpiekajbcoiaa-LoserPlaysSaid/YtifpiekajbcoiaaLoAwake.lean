/- The law's own example. -/
import Derived.Test.YtifpiekajbcoiaaLoNew
import Derived.Test.YtifpiekajbcoiaaLoFact
import Derived.Laws.OwnMore
namespace Go.Proofs.Ytifpiekajbcoiaa
open Go.RowKit LoPlain
set_option linter.unusedVariables false
set_option linter.unusedSimpArgs false
set_option maxRecDepth 20000
/-- A tree made since w. -/
def Tr15 (p : Nat) (l : List Hd) (w v : World) : Prop := ∃ B, LoA p l v B ∧ Nx (fun _ => False) w B v
theorem Tr15.gr {p : Nat} {l : List Hd} {w v u : World} (h : Tr15 p l w v) (g : Gr v u) : Tr15 p l w u := by
  obtain ⟨B, k, n⟩ := h
  exact ⟨B, star_gr (fr_lo p l) k g, n.trans (Nx.gr g)⟩
theorem Tr15.call {p : Nat} {l l2 : List Hd} {w v : World} {f : FuncId} {args : Array Value} {x : Value} (h : Tr15 p l w v) (k : ∀ B, LoA p l v B → Calls Try.prog f args v (Does v B (LoA p l2) x)) :
    Calls Try.prog f args v fun e v' => e = .returned x ∧ Tr15 p l2 w v' := by
  obtain ⟨B, h1, n⟩ := h
  refine (k B h1).mono ?_
  rintro e v' ⟨he, B', h', n'⟩
  exact ⟨he, B', h', n.trans n'⟩
theorem Tr15.end {p : Nat} {l : List Hd} {w v : World} (h : Tr15 p l w v) : Gr w v := by
  obtain ⟨B, _, n⟩ := h
  exact nx_gr n
def exA : ByteArray := ⟨#[97]⟩
def exB : ByteArray := ⟨#[98]⟩
def exL : List Hd := mkL [exB, exA, exA] []
theorem lt_ex : ltS exA exB = true ∧ ltS exB exA = false ∧ ltS exA exA = false ∧ ltS exB exB = false := by
  have h1 : exA.toList = [97] := by rw [Lib.toList_data]; rfl
  have h2 : exB.toList = [98] := by rw [Lib.toList_data]; rfl
  unfold ltS
  rw [h1, h2]
  decide
theorem ex_least : leastN exL = 1 ∧ leastN (nextL exL ⟨#[]⟩ true) = 2 := by
  obtain ⟨h1, h2, h3, h4⟩ := lt_ex
  have e1 : leastN exL = 1 := by
    simp [leastN, exL, mkL, bestN, oAt, sAt, h1, h2, h3, h4]
  refine ⟨e1, ?_⟩
  have e2 : nextL exL ⟨#[]⟩ true = [⟨exB, false⟩, ⟨⟨#[]⟩, true⟩, ⟨exA, false⟩] := by
    unfold nextL leastB
    rw [e1]
    simp [exL, mkL]
  rw [e2]
  simp [leastN, bestN, oAt, sAt, h1, h2, h3, h4]
theorem ex_facts : leastI exL = 1 ∧ leastB exL = true ∧ headS exL = exA ∧ leastI (nextL exL ⟨#[]⟩ true) = 2 ∧ leastB (nextL exL ⟨#[]⟩ true) = true ∧ leftN (nextL exL ⟨#[]⟩ true) = 2 := by
  obtain ⟨e1, e2⟩ := ex_least
  refine ⟨by unfold leastI; rw [e1]; rfl, by unfold leastB; rw [e1]; rfl, ?_, by unfold leastI; rw [e2]; rfl, by unfold leastB; rw [e2]; rfl, ?_⟩
  · unfold headS leastB; rw [e1]; rfl
  · unfold nextL leastB; rw [e1]; rfl
set_option maxHeartbeats 2000000 in
theorem awake15_c (w : World) : Calls Try.prog 6 #[] w fun e w' => e = .returned (.bool true) ∧ Gr w w' := by
  obtain ⟨i2, hi2, hx0, hx1, hx2⟩ := info_parts infoS
  obtain ⟨W, hW⟩ : ∃ W, w.alloc (.cells #[.string ⟨#[98]⟩, .string ⟨#[97]⟩, .string ⟨#[97]⟩] 9) = W := ⟨_, rfl⟩
  have gW : Gr w W := by rw [← hW]; exact Below.alloc (Below.refl _ _) (Nat.le_refl _) _
  have L1 : Lies W (.slice (some ⟨w.heap.size, 0, none⟩) 3 3) [exB, exA, exA] := by
    refine ⟨_, 3, rfl, Nat.le_refl _, .inr ⟨_, 0, rfl, by rw [← hW, World.size_alloc]; omega, fun j x hj => ?_⟩⟩
    rw [← hW, World.cell?_alloc_new]
    match j, hj with
    | 0, hj => cases hj; rfl
    | 1, hj => cases hj; rfl
    | 2, hj => cases hj; rfl
  have L2 : LiesV W (.slice none 0 0) (bools []) := ⟨none, 0, rfl, Nat.le_refl _, .inl rfl⟩
  have P := Lib.hid (lo_new_c L1 L2 (by decide) (by decide) (fun s hs => by simp only [List.mem_cons, List.not_mem_nil, or_false] at hs; rcases hs with rfl | rfl | rfl <;> decide))
  obtain ⟨f1, f2, f3, f4, f5, f6⟩ := ex_facts
  have hl0 : exL.length ≤ 64 := by decide
  have hl1 : (nextL exL ⟨#[]⟩ true).length ≤ 64 := by rw [nextL_length]; exact hl0
  have hex : mkL [exB, exA, exA] [] = exL := rfl
  rw [hex] at P
  have C1 := Lib.hid (fun p u (k : Tr15 p exL W u) => k.call fun B q => lo_least_c hl0 q)
  have C2 := Lib.hid (fun p u (k : Tr15 p exL W u) => k.call fun B q => lo_head_c hl0 q)
  have C3 := Lib.hid (fun p u (k : Tr15 p exL W u) => k.call fun B q => lo_next_c hl0 ⟨#[]⟩ true (by decide) q)
  have C4 := Lib.hid (fun p u (k : Tr15 p (nextL exL ⟨#[]⟩ true) W u) => k.call fun B q => lo_least_c hl1 q)
  have C5 := Lib.hid (fun p u (k : Tr15 p (nextL exL ⟨#[]⟩ true) W u) => k.call fun B q => lo_left_c hl1 q)
  rw [f1, f2] at C1
  rw [f3] at C2
  rw [f4, f5] at C4
  rw [f6] at C5
  generalize nextL exL ⟨#[]⟩ true = l1 at C3 C4 C5
  generalize exL = l0 at P C1 C2 C3
  clear f1 f2 f3 f4 f5 f6 hl0 hl1 hex L1 L2
  unfold exA at C2
  have z51 := zero_tr
  go_enter Try.func6, Try.ntmps6
  go_wp2_with fail
  refine (P.out).mono ?_; rintro e u1 ⟨⟨p, B1, rfl, hp, np⟩, g1⟩
  have T1 := Lib.hid (show Tr15 p l0 W u1 from ⟨B1, hp, Only.ofGr g1, fun b hb => .inr (np b hb)⟩)
  clear hp np g1
  go_wp2_with fail
  refine (C1.out _ _ T1.out).mono ?_; rintro e u2 ⟨rfl, t2⟩
  have T2 := Lib.hid t2
  clear t2
  go_wp2_with fail
  refine (C2.out _ _ T2.out).mono ?_; rintro e u3 ⟨rfl, t3⟩
  have T3 := Lib.hid t3
  clear t3
  go_wp2_with fail
  refine (C3.out _ _ T3.out).mono ?_; rintro e u4 ⟨rfl, t4⟩
  have T4 := Lib.hid t4
  clear t4
  go_wp2_with fail
  refine (C4.out _ _ T4.out).mono ?_; rintro e u5 ⟨rfl, t5⟩
  have T5 := Lib.hid t5
  clear t5
  go_wp2_with fail
  refine (lo_next_nil _ _ _).mono ?_; rintro e u6 ⟨rfl, g6⟩
  have T6 := Lib.hid (T5.out.gr g6)
  clear g6
  go_wp2_with fail
  refine (lo_least_nil _).mono ?_; rintro e u7 ⟨rfl, g7⟩
  have T7 := Lib.hid (T6.out.gr g7)
  clear g7
  go_wp2_with fail
  have T7z := Lib.hid (T7.out.gr (Below.alloc (Below.refl u7.heap.size u7) (Nat.le_refl _) (.cells loZ 51)))
  refine (lo_least_zero (p := u7.heap.size) (by first | exact heap_alloc_new u7 _ | (rw [World.alloc]; exact Array.getElem?_push_size))).mono ?_; rintro e u8 ⟨rfl, g8⟩
  have T8 := Lib.hid (T7z.out.gr g8)
  clear g8
  go_wp2_with fail
  refine (C5.out _ _ T8.out).mono ?_; rintro e u9 ⟨rfl, t9⟩
  have T9 := Lib.hid t9
  clear t9
  obtain ⟨wq, hrun, hown, hgrow⟩ := run_make_full (P := Try.prog) u9 0 22 9 i2 (.string ⟨#[]⟩) 1 Try.underlying22 hi2 hx0 hx1 .i64 .i64 65 (by rw [hx2]; omega) (by unfold maxLen; omega) (Nat.zero_le _)
  have hrun2 : (Instr.makeSlice 22 (.int .i64 65) (.int .i64 65)).run Try.prog u9 = .ok (.slice (some ⟨u9.heap.size, 0, none⟩) 65 65) wq := hrun
  clear hrun
  have gq : Gr u9 wq := Below.grown (Below.refl _ _) hgrow (Nat.le_refl _) (fun k e => by cases e)
  rw [show (Value.string ⟨#[]⟩).cells = #[Value.string ⟨#[]⟩] from rfl, toList_madeCells_one] at hown
  have NO := Lib.hid (lo_new_no (w := wq) (v1 := .slice (some ⟨u9.heap.size, 0, none⟩) 65 65) (v2 := .slice none 0 0) (hs := List.replicate 65 ⟨#[]⟩) (os := []) (lies_own (B := 0) (by
    have e : strs (List.replicate 65 (⟨#[]⟩ : ByteArray)) = List.replicate (65 * 1) (Value.string ⟨#[]⟩) := by simp [strs]
    rw [e]; exact hown)) ⟨none, 0, rfl, Nat.le_refl _, .inl rfl⟩ (by simp) (by simp))
  have T10 := Lib.hid (T9.out.gr gq)
  clear hown hgrow gq
  go_wp2_with fail
  refine (NO.out).mono ?_; rintro e u10 ⟨rfl, g10⟩
  have T11 := Lib.hid (T10.out.gr g10)
  clear g10
  go_wp2_with fail
  refine (lo_head_nil _).mono ?_; rintro e u11 ⟨rfl, g11⟩
  have T12 := Lib.hid (T11.out.gr g11)
  clear g11
  go_wp2_with fail
  refine (lo_left_nil _).mono ?_; rintro e u12 ⟨rfl, g12⟩
  have T13 := Lib.hid (T12.out.gr g12)
  clear g12
  go_wp2_with fail
  go_ret
  exact ⟨rfl, gW.trans T13.out.end⟩
end Go.Proofs.Ytifpiekajbcoiaa
