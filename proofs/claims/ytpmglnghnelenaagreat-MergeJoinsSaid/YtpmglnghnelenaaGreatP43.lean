/- In one text: MgArg, RnStr, RnRef. -/
import Derived.Test.YtpmglnghnelenaaGreatP00
import Derived.Test.YtpmglnghnelenaaGreatP08
import Derived.Maps.AppendAt
import Derived.Deep.AppendLies
import Derived.Test.YtpmglnghnelenaaGreatP26
import Derived.Test.YtpmglnghnelenaaGreatP01
import Derived.WalkKit
import Derived.ProofKit
import Derived.OwnWalk
import Derived.Lib.Strings
/- Slices of slices of strings, whoever made them. -/
namespace Go.Proofs.YtpmglnghnelenaaGreat
open Go.RowKit
set_option linter.unusedVariables false
set_option linter.unusedSimpArgs false
set_option maxRecDepth 20000
/-- v is a slice of slices of these texts. -/
def LiesSS (w : World) (v : Value) (X : List (List ByteArray)) : Prop :=
  ∃ a c, v = .slice a X.length c ∧ X.length ≤ c ∧ (1 ≤ X.length → ∃ b off, a = some ⟨b, off, none⟩ ∧ b < w.heap.size ∧ ∀ (j : Nat) (l : List ByteArray), X[j]? = some l → ∃ x, w.cell? ⟨b, off + j, none⟩ = some x ∧ Lies w x l)
theorem LiesSS.gr {w w' : World} {v : Value} {X : List (List ByteArray)} (h : LiesSS w v X) (g : Gr w w') : LiesSS w' v X := by
  obtain ⟨a, c, hv, hc, hh⟩ := h
  refine ⟨a, c, hv, hc, fun h1 => ?_⟩
  obtain ⟨b, off, ha, hb, hr⟩ := hh h1
  refine ⟨b, off, ha, Nat.lt_of_lt_of_le hb g.size, fun j l hl => ?_⟩
  obtain ⟨x, hx, hxl⟩ := hr j l hl
  exact ⟨x, by rw [World.cell?_of_block (w := w) (a := ⟨b, off + j, none⟩) (g.block b hb)]; exact hx, hxl.gr g⟩
theorem liesSS_at {w : World} {v : Value} {X : List (List ByteArray)} (h : LiesSS w v X) {j : Nat} {l : List ByteArray} (hl : X[j]? = some l) : ∃ a c b off x, v = .slice a X.length c ∧ a = some ⟨b, off, none⟩ ∧ b < w.heap.size ∧ w.cell? ⟨b, off + j, none⟩ = some x ∧ Lies w x l := by
  obtain ⟨a, c, hv, hc, hh⟩ := h
  have hj := (List.getElem?_eq_some_iff.1 hl).1
  obtain ⟨b, off, ha, hb, hr⟩ := hh (by omega)
  obtain ⟨x, hx, hxl⟩ := hr j l hl
  exact ⟨a, c, b, off, x, hv, ha, hb, hx, hxl⟩
theorem liesSS_in {w : World} {t : TypeId} {v : Value} (ht : Tryz.prog.underlying t = some (.slice 26)) (h : Rd Tryz.prog w t v) : ∃ X : List (List ByteArray), LiesSS w v X ∧ X.length ≤ maxLen ∧ ∀ l ∈ X, l.length ≤ maxLen ∧ ∀ s ∈ l, s.size ≤ maxLen := by
  obtain ⟨a', n', c', hv', hc'⟩ := rd_cap ht h
  obtain ⟨a, l, c, rfl, hl, hr, hx⟩ := rd_slice ht (by kernel_rfl) h
  simp only [Value.slice.injEq] at hv'
  obtain ⟨rfl, rfl, rfl⟩ := hv'
  have ex : ∀ l' : List Value, (∀ x ∈ l', x ∈ l) → ∃ X : List (List ByteArray), X.length = l'.length ∧ (∀ (j : Nat) (m : List ByteArray), X[j]? = some m → ∃ x, l'[j]? = some x ∧ Lies w x m) ∧ ∀ m ∈ X, m.length ≤ maxLen ∧ ∀ s ∈ m, s.size ≤ maxLen := by
    intro l'
    induction l' with
    | nil => intro _; exact ⟨[], rfl, by simp, by simp⟩
    | cons x r ih =>
      intro hsub
      obtain ⟨X, h1, h2, h3⟩ := ih fun y hy => hsub y (by simp [hy])
      obtain ⟨m, k1, k2, k3⟩ := lies_in Tryz.underlying26 (hx x (hsub x (by simp)))
      refine ⟨m :: X, by simp [h1], fun j q hq => ?_, fun q hq => ?_⟩
      · cases j with
        | zero => simp at hq; subst hq; exact ⟨x, rfl, k1⟩
        | succ j => simpa using h2 j q (by simpa using hq)
      · rcases List.mem_cons.1 hq with rfl | hq
        · exact ⟨k2, k3⟩
        · exact h3 q hq
  obtain ⟨X, h1, h2, h3⟩ := ex l fun _ h => h
  refine ⟨X, ⟨a, c, by rw [h1], by rw [h1]; exact hc', fun hpos => ?_⟩, by omega, h3⟩
  rw [h1] at hpos
  rcases hr with hr | ⟨b, off, rfl, hb, hcell⟩
  · rw [hr] at hpos; simp at hpos
  · refine ⟨b, off, rfl, hb, fun j q hq => ?_⟩
    obtain ⟨x, hx1, hx2⟩ := h2 j q hq
    exact ⟨x, hcell j x hx1, hx2⟩
end Go.Proofs.YtpmglnghnelenaaGreat
/- Slices of strings: their last ones, middle ones; append of such a slice to a row of one's own. -/
namespace Go.Proofs.YtpmglnghnelenaaGreat
open Go.RowKit
set_option linter.unusedVariables false
set_option linter.unusedSimpArgs false
set_option maxRecDepth 20000
theorem infoSs : (Tryz.prog.info? 9).map (fun i => (i.zero, i.size, i.bytes)) = some (some (.string ⟨#[]⟩), 1, 16) := by kernel_rfl
theorem add_litS (b o i : Nat) : (⟨b, o, none⟩ : Addr).add i = ⟨b, o + i, none⟩ := by by_cases h : i = 0 <;> simp [Addr.add, h]
theorem last_anyS (a : Option Addr) (n c i : Nat) (h1 : i ≤ n) (h2 : n ≤ c) (w : World) :
    (Instr.slice 26 (.slice a n c) (some (.int .i64 (i : Int))) none none).run Tryz.prog w = .ok (.slice (if c = i then a else a.map (·.add i)) (n - i) (c - i)) w := by
  have h3 : (i : Int) ≤ (n : Int) := by omega
  have h4 : (n : Int) ≤ (c : Int) := by omega
  cases a <;> simp [Instr.slice, Instr.sliceBounds, run_underlying Tryz.underlying26, go_sem, sliced, h3, h4, show Tryz.prog.cellsOf 9 = 1 by kernel_rfl]
theorem mid_anyS (a : Option Addr) (n c i k : Nat) (h1 : i ≤ k) (h2 : k ≤ n) (h3 : n ≤ c) (z : Int) (hz : z = (k : Int)) (w : World) :
    (Instr.slice 26 (.slice a n c) (some (.int .i64 (i : Int))) (some (.int .i64 z)) none).run Tryz.prog w = .ok (.slice (if c = i then a else a.map (·.add i)) (k - i) (c - i)) w := by
  subst hz
  have h4 : (i : Int) ≤ (k : Int) := by omega
  have h5 : (k : Int) ≤ (c : Int) := by omega
  have h6 : ¬ k < i := by omega
  cases a <;> simp [Instr.slice, Instr.sliceBounds, run_underlying Tryz.underlying26, go_sem, sliced, h4, h5, h6, show Tryz.prog.cellsOf 9 = 1 by kernel_rfl]
theorem lies_midS {w : World} {a : Option Addr} {n c : Nat} {l : List ByteArray} (h : Lies w (.slice a n c) l) (i k : Nat) (hi : i ≤ k) (hk : k ≤ n) : Lies w (.slice (if c = i then a else a.map (·.add i)) (k - i) (c - i)) ((l.take k).drop i) := by
  obtain ⟨a', c', hv, hc, h⟩ := h
  simp only [Value.slice.injEq] at hv
  obtain ⟨rfl, rfl, rfl⟩ := hv
  have hl : ((l.take k).drop i).length = k - i := by rw [List.length_drop, List.length_take]; omega
  refine ⟨_, c - i, by rw [hl], by omega, ?_⟩
  by_cases h0 : k - i = 0
  · exact .inl (List.eq_nil_of_length_eq_zero (by omega))
  · rcases h with rfl | ⟨b, o, rfl, hr⟩
    · exact .inl (by simp)
    · refine .inr ⟨b, o + i, ?_, hr.1, fun j x hj => ?_⟩
      · rw [if_neg (by omega)]
        simp only [Option.map_some, add_litS]
      · rw [List.getElem?_drop] at hj
        have hlt := (List.getElem?_eq_some_iff.1 hj).1
        rw [List.length_take] at hlt
        rw [List.getElem?_take_of_lt (by omega)] at hj
        rw [Nat.add_assoc]
        exact hr.2 (i + j) x hj
theorem lies_lastS {w : World} {a : Option Addr} {n c : Nat} {l : List ByteArray} (h : Lies w (.slice a n c) l) (i : Nat) (hi : i ≤ n) : Lies w (.slice (if c = i then a else a.map (·.add i)) (n - i) (c - i)) (l.drop i) := by
  have hn : l.length = n := by
    obtain ⟨a', c', hv, _⟩ := h
    simp only [Value.slice.injEq] at hv
    exact hv.2.1.symm
  have := lies_midS h i n hi (Nat.le_refl _)
  rwa [List.take_of_length_le (by omega)] at this
theorem strs_app (a b : List ByteArray) : strs (a ++ b) = strs a ++ strs b := by simp [strs]
theorem run_app_str (w : World) (base : Nat) (ty : TypeId) {v vx : Value} {xs ys : List ByteArray} (hown : w.ownsRow base 9 1 v xs.length (strs xs)) (hl : Lies w vx ys) (hlen : xs.length + ys.length ≤ 100000) (hbase : base ≤ w.heap.size) :
    ∃ v' w', (Builtin.append_ #[26, 26] ty #[v, vx]).run Tryz.prog w = .ok v' w' ∧ w'.ownsRow base 9 1 v' (xs.length + ys.length) (strs (xs ++ ys)) ∧ w.grownBy w' v.ownBlock ∧ (v'.ownBlock = v.ownBlock ∨ v'.ownBlock = some w.heap.size) := by
  obtain ⟨i0, hi, hz0, hz1, hz2⟩ := info_parts infoSs
  obtain ⟨a, c, rfl, hc, h⟩ := hl
  have key : ∀ ad : Addr, a = some ad → (∀ j u, (strs ys)[j]? = some u → w.cell? (ad.add j) = some u) → ∃ v' w', (Builtin.append_ #[26, 26] ty #[v, .slice a ys.length c]).run Tryz.prog w = .ok v' w' ∧ w'.ownsRow base 9 1 v' (xs.length + ys.length) (strs (xs ++ ys)) ∧ w.grownBy w' v.ownBlock ∧ (v'.ownBlock = v.ownBlock ∨ v'.ownBlock = some w.heap.size) := by
    rintro ad rfl hcell
    obtain ⟨v', w', h1, h2, h3, _, h5⟩ := run_append_own_at (P := Tryz.prog) w base 26 ty 9 i0 (.string ⟨#[]⟩) 1 16 Tryz.underlying26 hi hz0 hz1 hz2 rfl (by decide) v xs.length (strs xs) hown ad ys.length c (strs ys) (by simp [strs]) hcell (by intro u hu; simp only [strs, List.mem_map] at hu; obtain ⟨s, _, rfl⟩ := hu; rfl) (by unfold maxLen; omega) (by omega) hbase
    exact ⟨v', w', h1, by rw [strs_app]; exact h2, h3, h5⟩
  cases a with
  | none =>
    have hy : ys = [] := h.elim id (fun ⟨b, o, e, _⟩ => by cases e)
    subst hy
    refine ⟨v, w, ?_, by simpa using hown, ⟨rfl, rfl, rfl, Nat.le_refl _, fun _ _ _ => rfl⟩, .inl rfl⟩
    rcases hown.2 with ⟨rfl, _⟩ | ⟨g, cap, cur, rfl, _, _, hnc, _⟩
    · simp [Builtin.append_, run_underlying Tryz.underlying26, sizeOf, typeInfo, hi, Builtin.lenOf, Builtin.firstCells]
    · simp [Builtin.append_, run_underlying Tryz.underlying26, sizeOf, typeInfo, hi, Builtin.lenOf, Builtin.firstCells, hnc, storeCells]
  | some ad =>
    refine key ad rfl fun j u hj => ?_
    rcases h with rfl | ⟨b, o, e, hr⟩
    · simp [strs] at hj
    · cases e
      rw [add_litS]
      unfold strs at hj
      rw [List.getElem?_map, Option.map_eq_some_iff] at hj
      obtain ⟨x, hx, rfl⟩ := hj
      exact hr.2 j x hx
/-- Behind 'append(a, b...)': a a row of one's own, b whatever slice. -/
theorem wpList_app_str {w : World} {ops : Array Oper} {rest : List Oper} {o : Oper} {a : Act} {Q : Exit → Act → World → Prop} (hgd : o.guard = none) (s x : Operand) (base : Nat) {v vx : Value} {xs ys : List ByteArray}
    (ho : o.op = .call { callee := .builtin .append, args := #[s, x], argTypes := #[26, 26] }) (hs : a.eval s = v) (hown : w.ownsRow base 9 1 v xs.length (strs xs)) (hx : a.eval x = vx) (hl : Lies w vx ys) (hlen : xs.length + ys.length ≤ 100000) (hbase : base ≤ w.heap.size)
    (h : ∀ v' w', w'.ownsRow base 9 1 v' (xs.length + ys.length) (strs (xs ++ ys)) → w.grownBy w' v.ownBlock → (v'.ownBlock = v.ownBlock ∨ v'.ownBlock = some w.heap.size) → wpList Tryz.prog ops Q rest (a.put o.dst v') w') :
    wpList Tryz.prog ops Q (o :: rest) a w := by
  refine wpList_plain hgd fun K hK => ?_
  obtain ⟨v', w', hr, h2, h3, h5⟩ := run_app_str w base o.type hown hl hlen hbase
  unfold Oper.wp execOp
  simp only [ho, resolve, invoke, builtin, Sem.run_bind, Sem.run_pure, Result.andThen_ok, List.map_toArray, List.map_cons, List.map_nil, hs, hx, hr]
  exact hK _ _ (h v' w' h2 h3 h5)
end Go.Proofs.YtpmglnghnelenaaGreat
/- The document's names of runs, and its texts in order. -/
namespace Go.Proofs.YtpmglnghnelenaaGreat
open Go.RowKit RnPlain
set_option linter.unusedVariables false
set_option linter.unusedSimpArgs false
set_option maxRecDepth 20000
theorem ret_s16 {a b : ByteArray} (h : a = b) : Ending.returned (.string a) = .returned (.string b) := by rw [h]
theorem ret_b16 {a b : Bool} (h : a = b) : Ending.returned (.bool a) = .returned (.bool b) := by rw [h]
theorem gr16 (w : World) (o : Obj) : Gr w (w.alloc o) := Below.alloc (Below.refl _ _) (Nat.le_refl _) _
theorem dig1 (u : World) (d : Nat) (hd : d < 10) :
    (convert 82 9 (.slice (some ⟨u.heap.size, 0, none⟩) 1 1)).run Tryz.prog (u.alloc (.cells #[.int .u8 (48 + (d : Int))] 5)) = .ok (.string (bs [UInt8.ofNat (48 + d)])) (u.alloc (.cells #[.int .u8 (48 + (d : Int))] 5)) := by
  refine conv_list _ _ _ _ rfl ?_
  intro j x hx
  obtain rfl : j = 0 := by
    have := (List.getElem?_eq_some_iff.1 hx).1
    simpa using this
  cases hx
  show World.cell? _ ⟨u.heap.size, 0 + 0, none⟩ = _
  rw [World.cell?_alloc_new]
  have e1 : (UInt8.ofNat (48 + d)).toNat = 48 + d := by rw [UInt8.toNat_ofNat']; omega
  rw [e1]
  rfl
set_option maxHeartbeats 1000000 in
theorem rdigits_c : ∀ (f n : Nat), n < f → n ≤ 1000000 → ∀ w : World, Calls Tryz.prog 46 #[.int .i64 (n : Int)] w fun e w' => e = .returned (.string (bs (digB n))) ∧ Gr w w' := by
  have key : ∀ (n : Nat) (w : World), n ≤ 1000000 → (n < 10 ∨ ∀ u : World, (bs (digB (n / 10))).size ≤ 1000001 ∧ Calls Tryz.prog 46 #[.int .i64 ((n / 10 : Nat) : Int)] u fun e w' => e = .returned (.string (bs (digB (n / 10)))) ∧ Gr u w') →
      Calls Tryz.prog 46 #[.int .i64 (n : Int)] w fun e w' => e = .returned (.string (bs (digB n))) ∧ Gr w w' := by
    intro n w hn hrec
    have C := dig1 w (n % 10) (by omega)
    have q1 : (n : Int).tmod 10 = ((n % 10 : Nat) : Int) := by rw [Int.tmod_eq_emod_of_nonneg (by omega)]; omega
    have q2 : (n : Int).tdiv 10 = ((n / 10 : Nat) : Int) := by rw [Int.tdiv_eq_ediv_of_nonneg (by omega)]; omega
    have hd : n % 10 < 10 := Nat.mod_lt _ (by omega)
    have hz : (bs [UInt8.ofNat (48 + n % 10)]).size = 1 := by rw [bs_size]; rfl
    by_cases h10 : n < 10
    · have HB := Lib.hid (show bs [UInt8.ofNat (48 + n % 10)] = bs (digB n) by rw [digB_small h10, Nat.mod_eq_of_lt h10])
      have t1 : (n : Int) < 10 := by omega
      generalize n % 10 = d at C q1 hd HB hz
      generalize bs [UInt8.ofNat (48 + d)] = t at C HB hz
      have c1 : IntKind.u8.wrap (48 + (d : Int)) = 48 + (d : Int) := IntWalk.u8_in _ (by omega)
      have HG := Lib.hid (gr16 w (.cells #[.int .u8 (48 + (d : Int))] 5))
      clear hrec q2
      go_enter Tryz.func46, Tryz.ntmps46
      go_wp2_with fail
      go_ret
      exact ⟨ret_s16 HB.out, HG.out⟩
    · have HB := Lib.hid (show bs (digB (n / 10)) ++ bs [UInt8.ofNat (48 + n % 10)] = bs (digB n) by rw [digB_big h10, bs_app])
      have R := Lib.hid (hrec.resolve_left h10)
      have t1 : ¬ (n : Int) < 10 := by omega
      have hs := (R.out w).1
      have hm : n / 10 ≤ 1000000 := by omega
      generalize n % 10 = d at C q1 hd HB hz
      generalize n / 10 = m at q2 HB R hs hm
      have w64 : wrap64 (m : Int) = (m : Int) := by unfold wrap64; omega
      generalize bs [UInt8.ofNat (48 + d)] = t at C HB hz
      generalize bs (digB m) = s at R HB hs
      have c1 : IntKind.u8.wrap (48 + (d : Int)) = 48 + (d : Int) := IntWalk.u8_in _ (by omega)
      have HG := Lib.hid (gr16 w (.cells #[.int .u8 (48 + (d : Int))] 5))
      have hcat : (s.size : Int) + t.size ≤ 9223372036854775807 := by omega
      clear hrec
      go_enter Tryz.func46, Tryz.ntmps46
      go_wp2_with fail
      refine (R.out _).2.mono ?_; rintro e u ⟨rfl, g⟩
      go_wp2_with fail
      go_ret
      exact ⟨ret_s16 HB.out, HG.out.trans g⟩
  intro f
  induction f with
  | zero => intro n h; omega
  | succ f ih =>
    intro n hf hn w
    by_cases h10 : n < 10
    · exact key n w hn (.inl h10)
    · refine key n w hn (.inr fun u => ⟨?_, ih (n / 10) (by omega) (by omega) u⟩)
      have := digB_le (n / 10 + 1) (n / 10) (by omega)
      rw [bs_size]; omega
set_option maxHeartbeats 1000000 in
theorem rname16_c (s : ByteArray) (i : Int) (hi : i ≤ 1000000) (hs : s.size ≤ 100000) (w : World) :
    Calls Tryz.prog 23 #[.string s, .int .i64 i] w fun e w' => e = .returned (.string (nameN s i)) ∧ Gr w w' := by
  by_cases h0 : i < 0
  · have HE := Lib.hid (show nameN s i = ⟨#[]⟩ by unfold nameN; rw [if_pos h0])
    go_enter Tryz.func23, Tryz.ntmps23
    go_wp2_with fail
    go_ret
    exact ⟨ret_s16 HE.out.symm, Gr.refl _⟩
  · obtain ⟨n, rfl⟩ : ∃ n : Nat, i = (n : Int) := ⟨i.toNat, by omega⟩
    have HE := Lib.hid (show nameN s (n : Int) = (s ++ bs [46]) ++ bs (digB n) by unfold nameN; rw [if_neg h0, Int.toNat_natCast])
    have D := Lib.hid (fun u => rdigits_c (n + 1) n (by omega) (by omega) u)
    have hl := digB_le (n + 1) n (by omega)
    have hz : (bs (digB n)).size ≤ 1000001 := by rw [bs_size]; omega
    have hz1 : (bs [46]).size = 1 := by rw [bs_size]; rfl
    have cat1 : ∀ u : World, (Op.stringOp .add s ⟨#[46]⟩).run Tryz.prog u = .ok (.string (s ++ bs [46])) u := fun u => run_string_add_sum u _ _ (by have : (⟨#[46]⟩ : ByteArray).size = 1 := rfl; omega)
    have cat2 : ∀ u : World, (Op.stringOp .add (s ++ bs [46]) (bs (digB n))).run Tryz.prog u = .ok (.string ((s ++ bs [46]) ++ bs (digB n))) u := fun u => run_string_add_sum u _ _ (by rw [ByteArray.size_append, hz1]; omega)
    generalize s ++ bs [46] = s1 at cat1 cat2 HE
    generalize bs (digB n) = t at D hz cat2 HE
    generalize s1 ++ t = r at cat2 HE
    clear hl
    go_enter Tryz.func23, Tryz.ntmps23
    go_wp2_with fail
    refine (D.out _).mono ?_; rintro e u ⟨rfl, g⟩
    go_wp2_with fail
    go_ret
    exact ⟨ret_s16 HE.out.symm, g⟩
def HasAt16 (l : List ByteArray) (s : ByteArray) (w : World) (i : Value) (wr : World) : Prop := ∃ j : Nat, j ≤ l.length ∧ i = .int .i64 (j : Int) ∧ hasT (l.take j) s = false ∧ wr = w
theorem take_on16 {l : List ByteArray} {j : Nat} (hj : j < l.length) : ∃ x, l[j]? = some x ∧ l.take (j + 1) = l.take j ++ [x] ∧ x ∈ l :=
  ⟨l[j], List.getElem?_eq_getElem hj, List.take_succ_eq_append_getElem hj, List.getElem_mem hj⟩
set_option maxHeartbeats 1000000 in
theorem rhas16_c {w : World} {v : Value} {l : List ByteArray} (h : Lies w v l) (hl : l.length ≤ 100000) (s : ByteArray) :
    Calls Tryz.prog 67 #[v, .string s] w fun e w' => e = .returned (.bool (hasT l s)) ∧ w = w' := by
  obtain ⟨a, c, rfl, hc, h⟩ := h
  obtain ⟨n, hn⟩ : ∃ n, l.length = n := ⟨_, rfl⟩
  have HN := Lib.hid hn
  have H := Lib.hid (show 1 ≤ n → ∃ b o, a = some ⟨b, o, none⟩ ∧ SRow w b o l from fun h1 => h.elim (fun h0 => by rw [h0] at hn; simp at hn; omega) id)
  rw [hn] at hl ⊢
  clear h hn hc
  go_enter Tryz.func67, Tryz.ntmps67
  go_wp2_with fail
  go_loopw [5] (fun i wr => HasAt16 l s w i wr) (fun i _ => n - (intOf i).toNat)
  case atStart => exact ⟨0, Nat.zero_le _, rfl, rfl, rfl⟩
  case round =>
    obtain ⟨j, hj, rfl, hall, rfl⟩ := hrel
    have hjn := HN.out
    rw [hjn] at hj
    by_cases hlt : j < n
    · obtain ⟨x, hx, hstep, hmem⟩ := take_on16 (l := l) (j := j) (by omega)
      obtain ⟨b, o, rfl, hr⟩ := H.out (by omega)
      have hcx := hr.2 j x hx
      by_cases he : x = s
      · have HX := Lib.hid (show hasT l s = true by unfold hasT; rw [List.any_eq_true]; exact ⟨x, hmem, by simpa using he⟩)
        subst he
        clear hx hstep hmem hall hr
        go_wp2_with fail
        go_ret
        exact ⟨ret_b16 HX.out.symm, rfl⟩
      · have HX := Lib.hid (show hasT (l.take (j + 1)) s = false by unfold hasT at hall ⊢; rw [hstep, List.any_append, hall]; simpa using he)
        have t1 : (x.toList == s.toList) = false := by
          rw [beq_eq_false_iff_ne]
          intro e
          rw [Lib.toList_data, Lib.toList_data] at e
          exact he (ByteArray.ext (Array.toList_inj.1 e))
        clear hx hstep hmem hall hr he
        go_wp2_with fail
        refine ⟨⟨j + 1, by omega, rfl, HX.out, rfl⟩, ?_⟩
        simp [intOf]; omega
    · obtain rfl : j = n := by omega
      have HX := Lib.hid (show hasT l s = false by rw [List.take_of_length_le (by omega)] at hall; exact hall)
      clear hall
      go_wp2_with fail
      go_ret
      exact ⟨ret_b16 HX.out.symm, rfl⟩
end Go.Proofs.YtpmglnghnelenaaGreat
