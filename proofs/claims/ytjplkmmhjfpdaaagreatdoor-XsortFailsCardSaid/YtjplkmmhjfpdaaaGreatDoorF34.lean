/- In one text: LoCmp, DsRow, LoRow, LoRef, LoRef2, Text, TextW, LoRef3, LoArg, LoMem, LoAhd, LoSet. -/
import Derived.Test.YtjplkmmhjfpdaaaGreatDoorF33
import Derived.Lib.Bytealg
import Derived.Laws.Externs
import Derived.Test.YtjplkmmhjfpdaaaGreatDoorF00
import Derived.Maps.AppendAt
import Derived.Test.YtjplkmmhjfpdaaaGreatDoorF16
import Derived.Deep.AppendLies
import Derived.Test.YtjplkmmhjfpdaaaGreatDoorF09
import Derived.BigQuiet
import Derived.Deep.RegionHeld3
import Derived.Orders
import Derived.Test.YtjplkmmhjfpdaaaGreatDoorF01
import Derived.Deep.RegionLaw
/- How two strings, and two numbers, stand to one another; the first of some numbers that is not zero. -/
namespace Go.Proofs.YtjplkmmhjfpdaaaGreatDoor
open Go.RowKit LoPlain
set_option linter.unusedVariables false
set_option linter.unusedSimpArgs false
set_option maxRecDepth 20000
theorem cmpB_iff : ∀ a b : List UInt8, (Lib.compareBytes a b < 0 ↔ Op.bytesLess a b = true) ∧ (Lib.compareBytes a b = 0 ↔ a = b)
  | [], [] => by simp [Lib.compareBytes, Op.bytesLess]
  | [], _ :: _ => by simp [Lib.compareBytes, Op.bytesLess]
  | _ :: _, [] => by simp [Lib.compareBytes, Op.bytesLess]
  | x :: a, y :: b => by
    obtain ⟨h1, h2⟩ := cmpB_iff a b
    simp only [Lib.compareBytes, Op.bytesLess, Bool.or_eq_true, Bool.and_eq_true, decide_eq_true_eq, beq_iff_eq, List.cons.injEq]
    by_cases hxy : x < y
    · have hne : x ≠ y := fun e => by rw [e] at hxy; exact UInt8.lt_irrefl _ hxy
      simp [hxy, hne]
    · by_cases hyx : y < x
      · have hne : x ≠ y := fun e => by rw [e] at hyx; exact UInt8.lt_irrefl _ hyx
        simp [hxy, hyx, hne]
      · have e : x = y := by
          rw [UInt8.lt_iff_toNat_lt] at hxy hyx
          exact UInt8.toNat_inj.1 (by omega)
        subst e
        rw [if_neg hxy, if_neg hxy, h1, h2]
        simp [hxy]
def cmpS (a b : ByteArray) : Int := Lib.compareBytes a.data.toList b.data.toList
theorem cmpS_lt (a b : ByteArray) : cmpS a b < 0 ↔ ltS a b = true := by
  unfold cmpS ltS
  rw [Lib.toList_data, Lib.toList_data]
  exact (cmpB_iff _ _).1
theorem cmpS_zero (a b : ByteArray) : cmpS a b = 0 ↔ a = b := by
  unfold cmpS
  rw [(cmpB_iff _ _).2]
  exact ⟨fun h => ByteArray.ext (Array.toList_inj.1 h), fun h => by rw [h]⟩
theorem cmpstring_c (a b : ByteArray) (w : World) : Calls Tryz.prog 220 #[.string a, .string b] w fun e w' => e = .returned (.int .i64 (cmpS a b)) ∧ w' = w := by
  go_enter Tryz.func220, Tryz.ntmps220
  go_wp2
  rw [run_callFunc_extern Tryz.func224 (by kernel_rfl) (by kernel_rfl) (by kernel_rfl) (e := Extern.BytealgCompare.compare) (by kernel_rfl), Lib.run_compareString]
  simp only [Result.andThen]
  rw [Oper.upon_value]
  go_wp2
  go_ret
  exact ⟨rfl, rfl⟩
theorem compare_c (a b : ByteArray) (w : World) : Calls Tryz.prog 213 #[.string a, .string b] w fun e w' => e = .returned (.int .i64 (cmpS a b)) ∧ w' = w := by
  go_enter Tryz.func213, Tryz.ntmps213
  go_wp2_with fail
  refine (cmpstring_c a b w).mono ?_; rintro e u ⟨rfl, rfl⟩
  go_wp2_with fail
  go_ret
  exact ⟨rfl, rfl⟩
theorem isnan_c (a : Int) (w : World) : Calls Tryz.prog 221 #[.int .i64 a] w fun e w' => e = .returned (.bool false) ∧ w' = w := by
  go_enter Tryz.func221, Tryz.ntmps221
  go_wp2_with fail
  go_ret
  exact ⟨by simp, rfl⟩
def cmpI (a b : Int) : Int := if a < b then -1 else if b < a then 1 else 0
theorem cmpI_c (a b : Int) (w : World) : Calls Tryz.prog 214 #[.int .i64 a, .int .i64 b] w fun e w' => e = .returned (.int .i64 (cmpI a b)) ∧ w' = w := by
  have h1 := isnan_c a w
  have h2 := isnan_c b w
  unfold cmpI
  by_cases k1 : a < b
  · go_enter Tryz.func214, Tryz.ntmps214
    go_wp2_with fail
    refine h1.mono ?_; rintro e u ⟨rfl, rfl⟩
    go_wp2_with fail
    refine h2.mono ?_; rintro e u ⟨rfl, rfl⟩
    go_wp2_with fail
    go_ret
    exact ⟨rfl, rfl⟩
  · by_cases k2 : b < a
    · go_enter Tryz.func214, Tryz.ntmps214
      go_wp2_with fail
      refine h1.mono ?_; rintro e u ⟨rfl, rfl⟩
      go_wp2_with fail
      refine h2.mono ?_; rintro e u ⟨rfl, rfl⟩
      go_wp2_with fail
      go_ret
      exact ⟨rfl, rfl⟩
    · go_enter Tryz.func214, Tryz.ntmps214
      go_wp2_with fail
      refine h1.mono ?_; rintro e u ⟨rfl, rfl⟩
      go_wp2_with fail
      refine h2.mono ?_; rintro e u ⟨rfl, rfl⟩
      go_wp2_with fail
      go_ret
      exact ⟨rfl, rfl⟩
theorem or_c {x y : Int} {b : Nat} {w : World} (hb : b < w.heap.size) (h0 : w.cell? ⟨b, 0, none⟩ = some (.int .i64 x)) (h1 : w.cell? ⟨b, 1, none⟩ = some (.int .i64 y)) :
    Calls Tryz.prog 212 #[.slice (some ⟨b, 0, none⟩) 2 2] w fun e w' => e = .returned (.int .i64 (if x = 0 then y else x)) ∧ w' = w := by
  by_cases k1 : x = 0
  · by_cases k2 : y = 0
    · subst k1 k2
      go_enter Tryz.func212, Tryz.ntmps212
      go_wp2_with fail
      go_rounds 3
      go_ret
      exact ⟨rfl, rfl⟩
    · subst k1
      have t : (y == 0) = false := by simp [k2]
      go_enter Tryz.func212, Tryz.ntmps212
      go_wp2_with fail
      go_rounds 3
      go_ret
      exact ⟨by simp, rfl⟩
  · have t : (x == 0) = false := by simp [k1]
    go_enter Tryz.func212, Tryz.ntmps212
    go_wp2_with fail
    go_rounds 3
    go_ret
    exact ⟨rfl, rfl⟩
end Go.Proofs.YtjplkmmhjfpdaaaGreatDoor
/- Slices of whole numbers, and slices of these, whoever made them; rows of one's own of either. -/
namespace Go.Proofs.YtjplkmmhjfpdaaaGreatDoor
open Go.RowKit
set_option linter.unusedVariables false
set_option linter.unusedSimpArgs false
set_option maxRecDepth 20000
theorem add_zero (g j : Nat) : (⟨g, 0, none⟩ : Addr).add j = ⟨g, j, none⟩ := by by_cases h : j = 0 <;> simp [Addr.add, h]
def ints (l : List Int) : List Value := l.map (Value.int .i64)
def VRow (w : World) (b off : Nat) (vs : List Value) : Prop := b < w.heap.size ∧ ∀ j x, vs[j]? = some x → w.cell? ⟨b, off + j, none⟩ = some x
def LiesI (w : World) (v : Value) (l : List Int) : Prop := ∃ a c, v = .slice a l.length c ∧ l.length ≤ c ∧ (l = [] ∨ ∃ b off, a = some ⟨b, off, none⟩ ∧ VRow w b off (ints l))
theorem LiesI.kept {w w' : World} {row : Option Nat} {v : Value} {l : List Int} (h : LiesI w v l) (hg : w.grownBy w' row) (hne : ∀ a n c, v = .slice (some a) n c → row ≠ some a.block) : LiesI w' v l := by
  obtain ⟨a, c, rfl, hc, h⟩ := h
  refine ⟨a, c, rfl, hc, h.imp id ?_⟩
  rintro ⟨b, off, rfl, hr⟩
  have hb := hne _ _ _ rfl
  refine ⟨b, off, rfl, Nat.lt_of_lt_of_le hr.1 hg.size, fun j x hj => ?_⟩
  exact hg.cell (hr.2 j x hj) (fun e => hb e.symm)
end Go.Proofs.YtjplkmmhjfpdaaaGreatDoor
/- Rows of one's own whose elements are written; slices of one-cell values, whoever made them. -/
namespace Go.Proofs.YtjplkmmhjfpdaaaGreatDoor
open Go.RowKit
set_option linter.unusedVariables false
set_option linter.unusedSimpArgs false
set_option maxRecDepth 20000
theorem rowE_at {E : TypeId} {v : Value} {n : Nat} {xs : List Value} {w : World} {B : Nat → Prop} (h : RowE E 1 v n xs w B) {g c : Nat} (hv : v = .slice (some ⟨g, 0, none⟩) n c) {j : Nat} {x : Value} (hx : xs[j]? = some x) : w.cell? ⟨g, j, none⟩ = some x ∧ w.frozen? ⟨g, j, none⟩ = false := by
  have hc := h.1.cells (g := g) (by rw [hv]; rfl) j x hx
  rw [add_zero g j] at hc
  refine ⟨hc, ?_⟩
  rcases h.1.2 with ⟨h2, h3⟩ | ⟨g', c', cur, h2, h3, h4, _⟩
  · rw [hv] at h2; cases h2
  · rw [hv] at h2
    simp only [Value.slice.injEq, Option.some.injEq, Addr.mk.injEq, true_and] at h2
    obtain ⟨⟨rfl, _⟩, rfl⟩ := h2
    exact cells_free h4 j
theorem rowE_form {E : TypeId} {v : Value} {n : Nat} {xs : List Value} {w : World} {B : Nat → Prop} (h : RowE E 1 v n xs w B) (hn : 0 < n) : ∃ g c, v = .slice (some ⟨g, 0, none⟩) n c ∧ g < w.heap.size := by
  obtain ⟨g, c, h1, _, h2⟩ := h.1.form hn
  exact ⟨g, c, h1, h2⟩
def LiesV (w : World) (v : Value) (xs : List Value) : Prop := ∃ a c, v = .slice a xs.length c ∧ xs.length ≤ c ∧ (xs = [] ∨ ∃ b off, a = some ⟨b, off, none⟩ ∧ VRow w b off xs)
theorem LiesV.only {w w' : World} {v : Value} {l : List Value} {C : Nat → Prop} (h : LiesV w v l) (o : Only C w w') (hC : ∀ b, b < w.heap.size → ¬ C b) : LiesV w' v l := by
  obtain ⟨a, c, rfl, hc, h⟩ := h
  refine ⟨a, c, rfl, hc, h.imp id ?_⟩
  rintro ⟨b, off, rfl, hr⟩
  exact ⟨b, off, rfl, Nat.lt_of_lt_of_le hr.1 o.size, fun j x hj => by rw [o.cell (p := ⟨b, off + j, none⟩) hr.1 (hC b hr.1)]; exact hr.2 j x hj⟩
def bools (l : List Bool) : List Value := l.map .bool
theorem infoBo : (Tryz.prog.info? 4).map (fun i => (i.zero, i.size, i.bytes)) = some (some (.bool false), 1, 1) := by kernel_rfl
end Go.Proofs.YtjplkmmhjfpdaaaGreatDoor
/- The document's tree: the least, how many are left. -/
namespace Go.Proofs.YtjplkmmhjfpdaaaGreatDoor
open Go.RowKit LoPlain
set_option linter.unusedVariables false
set_option linter.unusedSimpArgs false
set_option maxRecDepth 20000
end Go.Proofs.YtjplkmmhjfpdaaaGreatDoor
/- The document's tree: how many are left; what Next makes of it; New. -/
namespace Go.Proofs.YtjplkmmhjfpdaaaGreatDoor
open Go.RowKit LoPlain
set_option linter.unusedVariables false
set_option linter.unusedSimpArgs false
set_option maxRecDepth 20000
end Go.Proofs.YtjplkmmhjfpdaaaGreatDoor
/- A region that draws its order, walked once, in the order of its text: where each of its operations hands out one value in whatever world holds S, and leaves such a world (a copy, a load of a cell that stays; a call that makes memory), all its orders come to one. -/
namespace Go.Proofs.YtjplkmmhjfpdaaaGreatDoor
open Go.RowKit
set_option linter.unusedVariables false
set_option linter.unusedSimpArgs false
section
variable {P : Program} {ops : Array Oper} {Q : Exit → Act → World → Prop} {md : Region.Mode} {S : World → Prop}
def StepsTo (P : Program) (S : World → Prop) (o : Oper) (v : Value) (a : Act) : Prop :=
  ∀ w, S w → (∃ w', (execOp a.eval o).run P w = .ok (.value v) w' ∧ S w') ∨ (∃ f args w', (execOp a.eval o).run P w = .ok (.enter f args) w' ∧ Calls P f args w' fun e w'' => e = .returned v ∧ S w'')
def Steps (P : Program) (ops : Array Oper) (S : World → Prop) (o : Oper) (v : Value) (a : Act) : Prop :=
  (Region.wanted o (yielded ops a.tmps) = true ∧ StepsTo P S o v a) ∨ (Region.wanted o (yielded ops a.tmps) = false ∧ v = undef)
theorem Steps.of_same {o : Oper} {v : Value} {a a' : Act} (h : Steps P ops S o v a) (he : execOp a'.eval o = execOp a.eval o) (hw : Region.wanted o (yielded ops a'.tmps) = Region.wanted o (yielded ops a.tmps)) : Steps P ops S o v a' := by
  unfold Steps StepsTo at *
  rw [he, hw]
  exact h
inductive Plan (P : Program) (md : Region.Mode) (ops : Array Oper) (Q : Exit → Act → World → Prop) (S : World → Prop) : Nat → Array Bool → Act → Prop
  | done {fuel : Nat} {listed : Array Bool} {a : Act} (h : Region.ready md ops listed = []) (k : ∀ w, S w → Q .normal a w) : Plan P md ops Q S fuel listed a
  | take {fuel : Nat} {listed : Array Bool} {a : Act} (i : Nat) (o : Oper) (v : Value) (hi : ops[i]? = some o) (hf : Region.free md ops listed i = true) (hr : i ∈ Region.ready md ops listed) (h : Steps P ops S o v a)
      (k : Plan P md ops Q S fuel (listed.setIfInBounds i true) (a.put o.dst v)) : Plan P md ops Q S (fuel + 1) listed a
theorem free_set {i j : Nat} {listed : Array Bool} {o : Oper} (hi : ops[i]? = some o) (h : Region.free md ops listed i = true) : Region.free md ops (listed.setIfInBounds j true) i = true := by
  unfold Region.free at *
  rw [hi] at h ⊢
  simp only [List.all_eq_true, List.mem_range] at h ⊢
  intro k hk
  have h1 := h k hk
  by_cases hjk : j = k
  · subst hjk
    have h2 : (listed.setIfInBounds j true).getD j true = true := by
      by_cases hb : j < listed.size
      · simp [hb]
      · simp [Array.getElem?_eq_none (Nat.le_of_not_lt hb)]
    rw [h2]; simp
  · rw [getD_set_ne true hjk]; exact h1
theorem Plan.first (hs : Region.noSelect ops = true) : ∀ {fuel : Nat} {listed : Array Bool} {a : Act}, Plan P md ops Q S fuel listed a → ∀ {j : Nat}, j ∈ Region.ready md ops listed →
    ∃ fuel' o v, fuel = fuel' + 1 ∧ ops[j]? = some o ∧ Steps P ops S o v a ∧ Plan P md ops Q S fuel' (listed.setIfInBounds j true) (a.put o.dst v) := by
  intro fuel listed a h
  induction h with
  | done hr k => intro j hj; rw [hr] at hj; cases hj
  | @take fuel listed a i oi vi hi hf hr hst hk ih =>
    intro j hj
    by_cases hji : j = i
    · subst hji
      exact ⟨fuel, oi, vi, rfl, hi, hst, hk⟩
    · obtain ⟨fuel', oj, vj, hfu, hoj, hsj, hpj⟩ := ih (ready_mono hj hji)
      obtain ⟨hjun, oj', hoj', hall⟩ := mem_ready.1 hj
      rw [hoj] at hoj'
      cases hoj'
      have hnot : ∀ e ∈ oj.after, Region.binds md e = true → e.on ≠ i := fun e he hb heq => by
        have h1 := hall e he hb
        have h0 := (mem_ready.1 hr).1
        rw [heq] at h1
        rcases Nat.lt_or_ge i listed.size with h' | h'
        · simp [h'] at h0 h1; rw [h0] at h1; cases h1
        · simp [Array.getElem?_eq_none h'] at h1
      have hap := Region.free_spec hi hf j oj hoj hji hjun hnot
      obtain ⟨h1, h2, h3⟩ := Oper.apart_spec hap
      have hseli := fun cs b => Region.noSelect_spec hs i oi cs b hi
      have hselj := fun cs b => Region.noSelect_spec hs j oj cs b hoj
      refine ⟨fuel, oj, vj, rfl, hoj, hsj.of_same (execOp_put oj hselj a oi.dst vi h1).symm (wanted_put oj a oi.dst vi h1).symm, ?_⟩
      subst hfu
      refine Plan.take i oi vi hi (free_set hi hf) (ready_mono hr (Ne.symm hji)) (hst.of_same (execOp_put oi hseli a oj.dst vj h3) (wanted_put oi a oj.dst vj h3)) ?_
      rw [Array.setIfInBounds_comm _ _ hji, ← Act.put_comm a vi vj h2]
      exact hpj
end
end Go.Proofs.YtjplkmmhjfpdaaaGreatDoor
/- A region that draws its order, walked once in the order of its text, some of whose operations write (a slice made, an append, a store at the end): these stand in one forced order; all others read what the writing ones ahead of the last leave as it is. -/
namespace Go.Proofs.YtjplkmmhjfpdaaaGreatDoor
open Go.RowKit
set_option linter.unusedVariables false
set_option linter.unusedSimpArgs false
section
variable {P : Program} {ops : Array Oper} {Q : Exit → Act → World → Prop} {md : Region.Mode} {S : World → Prop} {M : List Nat} {W : Nat → World}
def StepW (P : Program) (ops : Array Oper) (S : World → Prop) (M : List Nat) (W : Nat → World) (i : Nat) (o : Oper) (v : Value) (a : Act) : Prop :=
  (i ∉ M ∧ ((Region.wanted o (yielded ops a.tmps) = true ∧ ∀ w, S w → (execOp a.eval o).run P w = .ok (.value v) w) ∨ (Region.wanted o (yielded ops a.tmps) = false ∧ v = undef))) ∨
  (∃ k, M[k]? = some i ∧ Region.wanted o (yielded ops a.tmps) = true ∧ ((execOp a.eval o).run P (W k) = .ok (.value v) (W (k + 1)) ∨ (o.dst = none ∧ (execOp a.eval o).run P (W k) = .ok .skip (W (k + 1)))))
theorem StepW.of_same {i : Nat} {o : Oper} {v : Value} {a a' : Act} (h : StepW P ops S M W i o v a) (he : execOp a'.eval o = execOp a.eval o) (hw : Region.wanted o (yielded ops a'.tmps) = Region.wanted o (yielded ops a.tmps)) : StepW P ops S M W i o v a' := by
  unfold StepW at *
  rw [he, hw]
  exact h
inductive PlanW (P : Program) (md : Region.Mode) (ops : Array Oper) (Q : Exit → Act → World → Prop) (S : World → Prop) (M : List Nat) (W : Nat → World) : Nat → Array Bool → Act → Prop
  | done {fuel : Nat} {listed : Array Bool} {a : Act} (h : Region.ready md ops listed = []) (hm : ∀ i ∈ M, listed.getD i true = true) (k : Q .normal a (W M.length)) : PlanW P md ops Q S M W fuel listed a
  | take {fuel : Nat} {listed : Array Bool} {a : Act} (i : Nat) (o : Oper) (v : Value) (hi : ops[i]? = some o) (hf : Region.free md ops listed i = true) (hr : i ∈ Region.ready md ops listed) (h : StepW P ops S M W i o v a)
      (k : PlanW P md ops Q S M W fuel (listed.setIfInBounds i true) (a.put o.dst v)) : PlanW P md ops Q S M W (fuel + 1) listed a
theorem PlanW.first (hs : Region.noSelect ops = true) : ∀ {fuel : Nat} {listed : Array Bool} {a : Act}, PlanW P md ops Q S M W fuel listed a → ∀ {j : Nat}, j ∈ Region.ready md ops listed →
    ∃ fuel' o v, fuel = fuel' + 1 ∧ ops[j]? = some o ∧ StepW P ops S M W j o v a ∧ PlanW P md ops Q S M W fuel' (listed.setIfInBounds j true) (a.put o.dst v) := by
  intro fuel listed a h
  induction h with
  | done hr _ k => intro j hj; rw [hr] at hj; cases hj
  | @take fuel listed a i oi vi hi hf hr hst hk ih =>
    intro j hj
    by_cases hji : j = i
    · subst hji
      exact ⟨fuel, oi, vi, rfl, hi, hst, hk⟩
    · obtain ⟨fuel', oj, vj, hfu, hoj, hsj, hpj⟩ := ih (ready_mono hj hji)
      obtain ⟨hjun, oj', hoj', hall⟩ := mem_ready.1 hj
      rw [hoj] at hoj'
      cases hoj'
      have hnot : ∀ e ∈ oj.after, Region.binds md e = true → e.on ≠ i := fun e he hb heq => by
        have h1 := hall e he hb
        have h0 := (mem_ready.1 hr).1
        rw [heq] at h1
        rcases Nat.lt_or_ge i listed.size with h' | h'
        · simp [h'] at h0 h1; rw [h0] at h1; cases h1
        · simp [Array.getElem?_eq_none h'] at h1
      have hap := Region.free_spec hi hf j oj hoj hji hjun hnot
      obtain ⟨h1, h2, h3⟩ := Oper.apart_spec hap
      have hseli := fun cs b => Region.noSelect_spec hs i oi cs b hi
      have hselj := fun cs b => Region.noSelect_spec hs j oj cs b hoj
      refine ⟨fuel, oj, vj, rfl, hoj, hsj.of_same (execOp_put oj hselj a oi.dst vi h1).symm (wanted_put oj a oi.dst vi h1).symm, ?_⟩
      subst hfu
      refine PlanW.take i oi vi hi (free_set hi hf) (ready_mono hr (Ne.symm hji)) (hst.of_same (execOp_put oi hseli a oj.dst vj h3) (wanted_put oi a oj.dst vj h3)) ?_
      rw [Array.setIfInBounds_comm _ _ hji, ← Act.put_comm a vi vj h2]
      exact hpj
end
end Go.Proofs.YtjplkmmhjfpdaaaGreatDoor
/- The document's tree: New. -/
namespace Go.Proofs.YtjplkmmhjfpdaaaGreatDoor
open Go.RowKit LoPlain
set_option linter.unusedVariables false
set_option linter.unusedSimpArgs false
set_option maxRecDepth 20000
end Go.Proofs.YtjplkmmhjfpdaaaGreatDoor
/- An argument that is a slice of steps (a head, and whether it is over). -/
namespace Go.Proofs.YtjplkmmhjfpdaaaGreatDoor
open Go.RowKit Go.ChangeShapes Go.WideShapes Go.Deep LoPlain
set_option linter.unusedVariables false
set_option linter.unusedSimpArgs false
set_option maxRecDepth 20000
def StAt (w : World) (b o : Nat) (x : Hd) : Prop := w.cell? ⟨b, o, none⟩ = some (.string x.s) ∧ w.cell? ⟨b, o + 1, none⟩ = some (.bool x.o)
def StRow (w : World) (b o : Nat) (l : List Hd) : Prop := b < w.heap.size ∧ ∀ (j : Nat) (x : Hd), l[j]? = some x → StAt w b (o + j * 2) x
theorem StRow.only {w w' : World} {b o : Nat} {l : List Hd} {C : Nat → Prop} (h : StRow w b o l) (q : Only C w w') (hC : ∀ b, b < w.heap.size → ¬ C b) : StRow w' b o l :=
  ⟨Nat.lt_of_lt_of_le h.1 q.size, fun j x hj => ⟨by rw [q.cell (p := ⟨b, o + j * 2, none⟩) h.1 (hC b h.1)]; exact (h.2 j x hj).1, by rw [q.cell (p := ⟨b, o + j * 2 + 1, none⟩) h.1 (hC b h.1)]; exact (h.2 j x hj).2⟩⟩
end Go.Proofs.YtjplkmmhjfpdaaaGreatDoor
/- The program's tree of losers in memory: its block; who is ahead. -/
namespace Go.Proofs.YtjplkmmhjfpdaaaGreatDoor
open Go.RowKit LoPlain
set_option linter.unusedVariables false
set_option linter.unusedSimpArgs false
set_option maxRecDepth 20000
def keptS (x : Hd) : ByteArray := if x.o = true then ⟨#[]⟩ else x.s
structure TrC (n : Nat) (g : Nat → Option Hd) (left : Int) (f : Nat → Int) (win : Int) (cs : Array Value) : Prop where
  size : cs.size = 195
  c0 : cs[0]? = some (.int .i64 (n : Int))
  c1 : cs[1]? = some (.int .i64 left)
  src : ∀ i x, i < 64 → g i = some x → cs[2 + i * 2]? = some (.string (keptS x)) ∧ cs[2 + i * 2 + 1]? = some (.bool x.o)
  los : ∀ q, q < 64 → cs[130 + q]? = some (.int .i64 (f q))
  wn : cs[194]? = some (.int .i64 win)
def setA (g : Nat → Option Hd) (i : Nat) (x : Hd) : Nat → Option Hd := fun j => if j = i then some x else g j
theorem sib_get (cs : Array Value) (i j : Nat) (v : Value) (hi : i < cs.size) : (cs.setIfInBounds i v)[j]? = if i = j then some v else cs[j]? := by
  by_cases e : i = j
  · subst e; rw [if_pos rfl]; simp [hi]
  · rw [if_neg e]; exact Array.getElem?_setIfInBounds_ne e
theorem TrC.left {n : Nat} {g : Nat → Option Hd} {left : Int} {f : Nat → Int} {win : Int} {cs : Array Value} (h : TrC n g left f win cs) (v : Int) : TrC n g v f win (cs.setIfInBounds 1 (.int .i64 v)) := by
  have hs := h.size
  have k : ∀ j, (cs.setIfInBounds 1 (.int .i64 v))[j]? = if 1 = j then some (.int .i64 v) else cs[j]? := fun j => sib_get cs 1 j _ (by omega)
  refine ⟨by simp [hs], by rw [k, if_neg (by omega)]; exact h.c0, by rw [k, if_pos rfl], fun i x hi hg => ?_, fun q hq => by rw [k, if_neg (by omega)]; exact h.los q hq, by rw [k, if_neg (by omega)]; exact h.wn⟩
  rw [k, k, if_neg (by omega), if_neg (by omega)]
  exact h.src i x hi hg
theorem TrC.win {n : Nat} {g : Nat → Option Hd} {left : Int} {f : Nat → Int} {win : Int} {cs : Array Value} (h : TrC n g left f win cs) (v : Int) : TrC n g left f v (cs.setIfInBounds 194 (.int .i64 v)) := by
  have hs := h.size
  have k : ∀ j, (cs.setIfInBounds 194 (.int .i64 v))[j]? = if 194 = j then some (.int .i64 v) else cs[j]? := fun j => sib_get cs 194 j _ (by omega)
  refine ⟨by simp [hs], by rw [k, if_neg (by omega)]; exact h.c0, by rw [k, if_neg (by omega)]; exact h.c1, fun i x hi hg => ?_, fun q hq => by rw [k, if_neg (by omega)]; exact h.los q hq, by rw [k, if_pos rfl]⟩
  rw [k, k, if_neg (by omega), if_neg (by omega)]
  exact h.src i x hi hg
theorem TrC.put {n : Nat} {g : Nat → Option Hd} {left : Int} {f : Nat → Int} {win : Int} {cs : Array Value} (h : TrC n g left f win cs) {p : Nat} (hp : p < 64) (v : Int) : TrC n g left (updA f p v) win (cs.setIfInBounds (130 + p) (.int .i64 v)) := by
  have hs := h.size
  have k : ∀ j, (cs.setIfInBounds (130 + p) (.int .i64 v))[j]? = if 130 + p = j then some (.int .i64 v) else cs[j]? := fun j => sib_get cs (130 + p) j _ (by omega)
  refine ⟨by simp [hs], by rw [k, if_neg (by omega)]; exact h.c0, by rw [k, if_neg (by omega)]; exact h.c1, fun i x hi hg => ?_, fun q hq => ?_, by rw [k, if_neg (by omega)]; exact h.wn⟩
  · rw [k, k, if_neg (by omega), if_neg (by omega)]
    exact h.src i x hi hg
  · rw [k]
    by_cases e : q = p
    · subst e; rw [if_pos rfl, upd_at]
    · rw [if_neg (by omega), upd_ne _ _ e]; exact h.los q hq
theorem TrC.set {n : Nat} {g : Nat → Option Hd} {left : Int} {f : Nat → Int} {win : Int} {cs : Array Value} (h : TrC n g left f win cs) {i : Nat} (hi : i < 64) (x : Hd) :
    TrC n (setA g i x) left f win ((cs.setIfInBounds (2 + i * 2) (.string (keptS x))).setIfInBounds (2 + i * 2 + 1) (.bool x.o)) := by
  have hs := h.size
  have k : ∀ j, ((cs.setIfInBounds (2 + i * 2) (.string (keptS x))).setIfInBounds (2 + i * 2 + 1) (.bool x.o))[j]? = if 2 + i * 2 + 1 = j then some (.bool x.o) else if 2 + i * 2 = j then some (.string (keptS x)) else cs[j]? := fun j => by
    rw [sib_get _ _ _ _ (by simp; omega), sib_get _ _ _ _ (by omega)]
  refine ⟨by simp [hs], by rw [k, if_neg (by omega), if_neg (by omega)]; exact h.c0, by rw [k, if_neg (by omega), if_neg (by omega)]; exact h.c1, fun j y hj hg => ?_, fun q hq => by rw [k, if_neg (by omega), if_neg (by omega)]; exact h.los q hq, by rw [k, if_neg (by omega), if_neg (by omega)]; exact h.wn⟩
  unfold setA at hg
  by_cases e : j = i
  · subst e
    rw [if_pos rfl] at hg
    cases hg
    rw [k, k, if_neg (by omega), if_pos rfl, if_pos rfl]
    exact ⟨rfl, rfl⟩
  · rw [if_neg e] at hg
    rw [k, k, if_neg (by omega), if_neg (by omega), if_neg (by omega), if_neg (by omega)]
    exact h.src j y hj hg
def TrA (p n : Nat) (g : Nat → Option Hd) (left : Int) (f : Nat → Int) (win : Int) : Asn := fun w B => ∃ cs, Blk p cs 209 w B ∧ TrC n g left f win cs
theorem fr_tr (p n : Nat) (g : Nat → Option Hd) (left : Int) (f : Nat → Int) (win : Int) : Fr (TrA p n g left f win) where
  fr := fun ⟨cs, h, k⟩ o d => ⟨cs, (fr_blk _ _ _).fr h o d, k⟩
  lo := fun ⟨cs, h, _⟩ b hb => (fr_blk _ _ _).lo h b hb
theorem ret_b15 {p q : Bool} (h : p = q) : Ending.returned (.bool p) = .returned (.bool q) := by rw [h]
def ahdV (x y : Hd) (a b : Nat) : Bool := if x.o = y.o then (if cmpS (keptS x) (keptS y) = 0 then decide (cmpI a b < 0) else decide (cmpS (keptS x) (keptS y) < 0)) else y.o
theorem ahdV_is {l : List Hd} {a b : Nat} {x y : Hd} (hx : l[a]? = some x) (hy : l[b]? = some y) : ahdV x y a b = ahd l a b := by
  have hI : decide (cmpI (a : Int) (b : Int) < 0) = decide (a < b) := by
    unfold cmpI
    by_cases h : a < b
    · rw [if_pos (by omega)]; simp [h]
    · rw [if_neg (by omega)]
      split <;> simp [h]
  unfold ahdV ahd
  rw [oAt_at hx, oAt_at hy, sAt_at hx, sAt_at hy, hI]
  unfold keptS
  cases h1 : x.o <;> cases h2 : y.o <;> simp
  · by_cases e : x.s = y.s
    · rw [if_pos ((cmpS_zero _ _).2 e)]
      rw [e, lt_irrefl15]; simp
    · rw [if_neg (fun h => e ((cmpS_zero _ _).1 h))]
      have := cmpS_lt x.s y.s
      cases hl : ltS x.s y.s
      · rw [hl] at this; simp [e]; simp at this; exact this
      · rw [hl] at this; simp [e]; simp at this; exact this
  · intro h
    exact absurd ((cmpS_zero ⟨#[]⟩ ⟨#[]⟩).2 rfl) h
end Go.Proofs.YtjplkmmhjfpdaaaGreatDoor
/- Who is ahead, as the program tells it: its walk. -/
namespace Go.Proofs.YtjplkmmhjfpdaaaGreatDoor
open Go.RowKit LoPlain
set_option linter.unusedVariables false
set_option linter.unusedSimpArgs false
set_option maxRecDepth 20000
set_option maxHeartbeats 4000000 in
theorem aheadO_c {p n : Nat} {g : Nat → Option Hd} {left : Int} {f : Nat → Int} {win : Int} {w : World} {B : Nat → Prop} (h : TrA p n g left f win w B) {a b : Nat} (ha : a < 64) (hb : b < 64) {x y : Hd} (hx : g a = some x) (hy : g b = some y) :
    Calls Tryz.prog 199 #[.pointer (some ⟨p, 0, none⟩), .int .i64 a, .int .i64 b] w fun e w' => e = .returned (.bool (ahdV x y a b)) ∧ Gr w w' := by
  obtain ⟨cs, hblk, ht⟩ := h
  have hlt := lt_of_block hblk.1
  obtain ⟨a1, a2⟩ := ht.src a x ha hx
  obtain ⟨b1, b2⟩ := ht.src b y hb hy
  rw [← cells_at hblk.1] at a1 a2 b1 b2
  have hv : ahdV x y a b = if x.o = y.o then (if cmpS (keptS x) (keptS y) = 0 then decide (cmpI a b < 0) else decide (cmpS (keptS x) (keptS y) < 0)) else y.o := rfl
  have HV := Lib.hid hv
  generalize ahdV x y a b = r at HV
  generalize keptS x = s1 at a1 HV
  generalize keptS y = s2 at b1 HV
  generalize x.o = o1 at a2 HV
  generalize y.o = o2 at b2 HV
  clear hv hx hy ht hblk
  have D := Lib.hid (fun u (gr : Gr w u) => (⟨by rw [Below.cell gr (p := ⟨p, 2 + a * 2, none⟩) hlt]; exact a1, by rw [Below.cell gr (p := ⟨p, 2 + a * 2 + 1, none⟩) hlt]; exact a2, by rw [Below.cell gr (p := ⟨p, 2 + b * 2, none⟩) hlt]; exact b1, by rw [Below.cell gr (p := ⟨p, 2 + b * 2 + 1, none⟩) hlt]; exact b2⟩ : u.cell? ⟨p, 2 + a * 2, none⟩ = some (.string s1) ∧ u.cell? ⟨p, 2 + a * 2 + 1, none⟩ = some (.bool o1) ∧ u.cell? ⟨p, 2 + b * 2, none⟩ = some (.string s2) ∧ u.cell? ⟨p, 2 + b * 2 + 1, none⟩ = some (.bool o2)))
  have HC := Lib.hid (fun u => compare_c s1 s2 u)
  have HI := Lib.hid (fun u => cmpI_c (a : Int) (b : Int) u)
  obtain ⟨rr, hrr⟩ : ∃ rr, (if cmpS s1 s2 = 0 then cmpI (a : Int) (b : Int) else cmpS s1 s2) = rr := ⟨_, rfl⟩
  have HO := Lib.hid (fun (b1 : Nat) (u : World) (hb : b1 < u.heap.size) (h0 : u.cell? ⟨b1, 0, none⟩ = some (.int .i64 (cmpS s1 s2))) (h1 : u.cell? ⟨b1, 1, none⟩ = some (.int .i64 (cmpI (a : Int) (b : Int)))) => or_c hb h0 h1)
  rw [hrr] at HO
  have HV2 := Lib.hid (show (if cmpS s1 s2 = 0 then decide (cmpI (a : Int) (b : Int) < 0) else decide (cmpS s1 s2 < 0)) = decide (rr < 0) by rw [← hrr]; split <;> rfl)
  clear hrr
  have GA := Lib.hid (fun (o1 o2 : Obj) => Gr.trans (Gr.of (Below.alloc (Below.refl _ w) (Nat.le_refl _) o1)) (Gr.of (Below.alloc (Below.refl _ (w.alloc o1)) (Nat.le_refl _) o2)))
  have GO := Lib.hid (fun (u : World) (g : Gr w u) (o : Obj) => g.trans (Gr.of (Below.alloc (Below.refl _ u) (Nat.le_refl _) o)))
  cases o1 <;> cases o2
  all_goals
    go_enter Tryz.func199, Tryz.ntmps199
    go_wp2_with fail
    go_region
    all_goals
      go_wp2_with fail
      first
      | (go_ret
         exact ⟨ret_b15 (by rw [HV.out]; rfl), Below.drew (GA.out _ _)⟩)
      | (refine (HC.out _).mono ?_; rintro e u ⟨rfl, rfl⟩
         go_wp2_with fail
         refine (HI.out _).mono ?_; rintro e u ⟨rfl, rfl⟩
         go_wp2_with fail
         refine (HO.out _ _ (by simp) (by go_simp) (by go_simp)).mono ?_; rintro e u ⟨rfl, rfl⟩
         go_wp2_with fail
         go_ret
         exact ⟨ret_b15 (by rw [HV.out, ← HV2.out]; simp), Below.drew (GO.out _ (GA.out _ _) _)⟩)
end Go.Proofs.YtjplkmmhjfpdaaaGreatDoor
/- What a source has from now on: the program's set. -/
namespace Go.Proofs.YtjplkmmhjfpdaaaGreatDoor
open Go.RowKit LoPlain
set_option linter.unusedVariables false
set_option linter.unusedSimpArgs false
set_option maxRecDepth 20000
theorem some_at {cs : Array Value} {i : Nat} (h : i < cs.size) : ∃ v, cs[i]? = some v := ⟨cs[i], Array.getElem?_eq_getElem h⟩
set_option maxHeartbeats 2000000 in
theorem set_over_c {p n : Nat} {g : Nat → Option Hd} {left : Int} {f : Nat → Int} {win : Int} {w : World} {B : Nat → Prop} (h : TrA p n g left f win w B) (hl : 1 ≤ left ∧ left ≤ 64) {i : Nat} (hi : i < 64) (s : ByteArray) :
    Calls Tryz.prog 179 #[.pointer (some ⟨p, 0, none⟩), .int .i64 i, .string s, .bool true] w (Does w B (TrA p n (setA g i ⟨s, true⟩) (left - 1) f win) (.tuple #[])) := by
  obtain ⟨cs, ⟨hb, hB⟩, ht⟩ := h
  have hs := ht.size
  obtain ⟨y1, hy1⟩ := some_at (cs := cs) (i := 2 + i * 2) (by omega)
  obtain ⟨y2, hy2⟩ := some_at (cs := cs) (i := 2 + i * 2 + 1) (by omega)
  have hb1 := cells_set hb (2 + i * 2) (.string ⟨#[]⟩)
  have hb2 := cells_set hb1 (2 + i * 2 + 1) (.bool true)
  have hT : TrC n (setA g i ⟨s, true⟩) left f win ((cs.setIfInBounds (2 + i * 2) (.string ⟨#[]⟩)).setIfInBounds (2 + i * 2 + 1) (.bool true)) := ht.set hi ⟨s, true⟩
  have hb3 := cells_set hb2 1 (.int .i64 (left - 1))
  have f1 : w.cell? ⟨p, 2 + i * 2, none⟩ = some y1 := by rw [cells_at hb]; exact hy1
  have f2 : w.frozen? ⟨p, 2 + i * 2, none⟩ = false := cells_free hb _
  have f3 : (w.setCell ⟨p, 2 + i * 2, none⟩ (.string ⟨#[]⟩)).cell? ⟨p, 2 + i * 2 + 1, none⟩ = some y2 := by rw [cells_at hb1, sib_get _ _ _ _ (by omega), if_neg (by omega)]; exact hy2
  have f4 : (w.setCell ⟨p, 2 + i * 2, none⟩ (.string ⟨#[]⟩)).frozen? ⟨p, 2 + i * 2 + 1, none⟩ = false := cells_free hb1 _
  have f5 : ((w.setCell ⟨p, 2 + i * 2, none⟩ (.string ⟨#[]⟩)).setCell ⟨p, 2 + i * 2 + 1, none⟩ (.bool true)).cell? ⟨p, 1, none⟩ = some (.int .i64 left) := by rw [cells_at hb2]; exact hT.c1
  have f6 : ((w.setCell ⟨p, 2 + i * 2, none⟩ (.string ⟨#[]⟩)).setCell ⟨p, 2 + i * 2 + 1, none⟩ (.bool true)).frozen? ⟨p, 1, none⟩ = false := cells_free hb2 _
  have HE := Lib.hid (show TrA p n (setA g i ⟨s, true⟩) (left - 1) f win (((w.setCell ⟨p, 2 + i * 2, none⟩ (.string ⟨#[]⟩)).setCell ⟨p, 2 + i * 2 + 1, none⟩ (.bool true)).setCell ⟨p, 1, none⟩ (.int .i64 (left - 1))) B from ⟨_, ⟨hb3, hB⟩, hT.left _⟩)
  have HN := Lib.hid (show Nx B w B (((w.setCell ⟨p, 2 + i * 2, none⟩ (.string ⟨#[]⟩)).setCell ⟨p, 2 + i * 2 + 1, none⟩ (.bool true)).setCell ⟨p, 1, none⟩ (.int .i64 (left - 1))) from
    Nx.of (((Only.cell1 w p _ _).trans (Only.cell1 _ p _ _)).trans (Only.cell1 _ p _ _)) (fun b e => (hB b).2 e))
  clear hb hb1 hb2 hb3 hT ht hy1 hy2 hs
  go_enter Tryz.func179, Tryz.ntmps179
  go_wp2_with fail
  refine bodyPost_ret (results_none rfl _ _ _) rfl ⟨rfl, B, HE.out, HN.out⟩
set_option maxHeartbeats 4000000 in
theorem set_head_c {p n : Nat} {g : Nat → Option Hd} {left : Int} {f : Nat → Int} {win : Int} {w : World} {B : Nat → Prop} (h : TrA p n g left f win w B) {i : Nat} (hi : i < 64) (s : ByteArray) (hz : s.size ≤ 1000) :
    Calls Tryz.prog 179 #[.pointer (some ⟨p, 0, none⟩), .int .i64 i, .string s, .bool false] w (Does w B (TrA p n (setA g i ⟨s, false⟩) left f win) (.tuple #[])) := by
  have FR := Lib.hid (fun u (q : Gr w u) => (fr_tr p n g left f win).fr h (Only.ofGr (B := fun _ => False) q) (fun _ _ e => e))
  have K : ∀ u, Gr w u → p < w.heap.size ∧ (∃ y, u.cell? ⟨p, 2 + i * 2, none⟩ = some y) ∧ u.frozen? ⟨p, 2 + i * 2, none⟩ = false ∧ (∃ y, (u.setCell ⟨p, 2 + i * 2, none⟩ (.string s)).cell? ⟨p, 2 + i * 2 + 1, none⟩ = some y) ∧ (u.setCell ⟨p, 2 + i * 2, none⟩ (.string s)).frozen? ⟨p, 2 + i * 2 + 1, none⟩ = false ∧
      TrA p n (setA g i ⟨s, false⟩) left f win ((u.setCell ⟨p, 2 + i * 2, none⟩ (.string s)).setCell ⟨p, 2 + i * 2 + 1, none⟩ (.bool false)) B ∧ Nx B w B ((u.setCell ⟨p, 2 + i * 2, none⟩ (.string s)).setCell ⟨p, 2 + i * 2 + 1, none⟩ (.bool false)) := by
    intro u q
    obtain ⟨cs, ⟨hb, hB⟩, ht⟩ := FR.out u q
    have hs := ht.size
    obtain ⟨_, ⟨hb0, _⟩, _⟩ := h
    obtain ⟨y1, hy1⟩ := some_at (cs := cs) (i := 2 + i * 2) (by omega)
    obtain ⟨y2, hy2⟩ := some_at (cs := cs) (i := 2 + i * 2 + 1) (by omega)
    have hb1 := cells_set hb (2 + i * 2) (.string s)
    have hb2 := cells_set hb1 (2 + i * 2 + 1) (.bool false)
    refine ⟨lt_of_block hb0, ⟨y1, by rw [cells_at hb]; exact hy1⟩, cells_free hb _, ⟨y2, by rw [cells_at hb1, sib_get _ _ _ _ (by omega), if_neg (by omega)]; exact hy2⟩, cells_free hb1 _, ⟨_, ⟨hb2, hB⟩, ht.set hi ⟨s, false⟩⟩, ?_⟩
    exact (Nx.gr q).trans (Nx.of ((Only.cell1 u p _ _).trans (Only.cell1 _ p _ _)) (fun b e => (hB b).2 e))
  have HK := Lib.hid K
  have C := Lib.hid (fun u (q : Gr w u) => (clone_c s u hz).mono (R' := fun e u' => e = .returned (.string s) ∧ Gr w u' ∧ (∃ y, u'.cell? ⟨p, 2 + i * 2, none⟩ = some y) ∧ u'.frozen? ⟨p, 2 + i * 2, none⟩ = false ∧ (∃ y, (u'.setCell ⟨p, 2 + i * 2, none⟩ (.string s)).cell? ⟨p, 2 + i * 2 + 1, none⟩ = some y) ∧ (u'.setCell ⟨p, 2 + i * 2, none⟩ (.string s)).frozen? ⟨p, 2 + i * 2 + 1, none⟩ = false) (fun e u' h => by
    have q' := q.trans h.2
    have k := HK.out u' q'
    exact ⟨h.1, q', k.2.1, k.2.2.1, k.2.2.2.1, k.2.2.2.2.1⟩))
  have gd : Gr w w.drew := grN w 1
  have hi2 : (i : Int) < 64 := by omega
  clear K h FR
  go_enter Tryz.func179, Tryz.ntmps179
  go_wp2_with fail
  go_region_law (go_simp; go_at_call 62; ((with_reducible refine (C.out _ (by assumption)).mono ?_); rintro e u ⟨rfl, gu, ⟨y1, c1⟩, c2, ⟨y2, c3⟩, c4⟩))
  refine bodyPost_end (results_none rfl _ _ _) rfl ⟨rfl, B, (HK.out u gu).2.2.2.2.2.1, (HK.out u gu).2.2.2.2.2.2⟩
end Go.Proofs.YtjplkmmhjfpdaaaGreatDoor
