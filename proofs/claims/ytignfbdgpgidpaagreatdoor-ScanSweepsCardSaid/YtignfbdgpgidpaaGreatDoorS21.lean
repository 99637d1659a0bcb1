/- In one text: MnRow, Text, TextW, MnRef6, OctRget, MnGet, MnSay. -/
import Derived.Test.YtignfbdgpgidpaaGreatDoorS20
import Derived.Test.YtignfbdgpgidpaaGreatDoorS18
import Derived.Test.YtignfbdgpgidpaaGreatDoorS09
import Derived.Deep.AppendLies
import Derived.Test.YtignfbdgpgidpaaGreatDoorS00
import Derived.Orders
import Derived.BigQuiet
import Derived.Test.YtignfbdgpgidpaaGreatDoorS19
import Derived.Lib.Hide
/- Rows of files of one's own. -/
namespace Go.Proofs.YtignfbdgpgidpaaGreatDoor
open Go.RowKit FsPlain MnPlain
set_option linter.unusedVariables false
set_option linter.unusedSimpArgs false
set_option maxRecDepth 20000
def flc (x : Fl) : List Value := [.string x.name, .int .i64 x.size, .int .i64 x.count, .int .u32 x.sum]
def fls : List Fl → List Value
  | [] => []
  | x :: l => .string x.name :: .int .i64 x.size :: .int .i64 x.count :: .int .u32 x.sum :: fls l
theorem fls_snoc : ∀ (l : List Fl) (x : Fl), fls (l ++ [x]) = fls l ++ flc x
  | [], x => rfl
  | y :: l, x => by simp only [fls, List.cons_append, fls_snoc l x]
theorem fls_at : ∀ {l : List Fl} {j : Nat} {x : Fl}, l[j]? = some x → (fls l)[j * 4]? = some (.string x.name) ∧ (fls l)[j * 4 + 1]? = some (.int .i64 x.size) ∧ (fls l)[j * 4 + 2]? = some (.int .i64 x.count) ∧ (fls l)[j * 4 + 3]? = some (.int .u32 x.sum)
  | [], j, x, h => by simp at h
  | y :: l, 0, x, h => by
    obtain rfl : y = x := by simpa using h
    exact ⟨rfl, rfl, rfl, rfl⟩
  | y :: l, j + 1, x, h => by
    have h' : l[j]? = some x := by simpa using h
    have e : (j + 1) * 4 = j * 4 + 1 + 1 + 1 + 1 := by omega
    obtain ⟨h1, h2, h3, h4⟩ := fls_at h'
    rw [e]
    exact ⟨h1, h2, h3, h4⟩
theorem flc_one (x : Fl) : ∀ u ∈ flc x, u.oneCell' = true := by
  intro u h
  simp only [flc, List.mem_cons, List.not_mem_nil, or_false] at h
  rcases h with rfl | rfl | rfl | rfl <;> rfl
theorem infoFl : (Tryz.prog.info? 48).map (fun i => (i.zero, i.size, i.bytes)) = some (some (.agg #[.string ⟨#[]⟩, .int .i64 0, .int .i64 0, .int .u32 0]), 4, 40) := by kernel_rfl
theorem liesFl_own {w : World} {B : Nat} {v : Value} {l : List Fl} (h : w.ownsRow B 48 4 v l.length (fls l)) : LiesFl w v l := by
  have hc := @World.ownsRow.cells w _ _ _ _ _ _ h
  have hl := h.lt
  obtain ⟨_, p⟩ := h
  rcases p with ⟨rfl, z⟩ | ⟨g, cap, cur, rfl, _, _, hn, _⟩
  · exact ⟨none, 0, by rw [z], by omega, .inl (List.eq_nil_of_length_eq_zero z)⟩
  · refine ⟨_, cap, rfl, hn, .inr ⟨g, 0, rfl, (hl g rfl).2, fun j x hj => ?_⟩⟩
    have K : ∀ (k : Nat) (u : Value), (fls l)[k]? = some u → w.cell? ⟨g, k, none⟩ = some u := fun k u hk => by
      have := hc (g := g) rfl k u hk
      have e : (⟨g, 0, none⟩ : Addr).add k = ⟨g, k, none⟩ := by
        cases k with
        | zero => rfl
        | succ k => simp [Addr.add]
      rwa [e] at this
    obtain ⟨a1, a2, a3, a4⟩ := fls_at hj
    rw [Nat.zero_add]
    exact ⟨K _ _ a1, K _ _ a2, K _ _ a3, K _ _ a4⟩
end Go.Proofs.YtignfbdgpgidpaaGreatDoor
/- A region that draws its order, walked once, in the order of its text: where each of its operations hands out one value in whatever world holds S, and leaves such a world (a copy, a load of a cell that stays; a call that makes memory), all its orders come to one. -/
namespace Go.Proofs.YtignfbdgpgidpaaGreatDoor
open Go.RowKit
set_option linter.unusedVariables false
set_option linter.unusedSimpArgs false
section
variable {P : Program} {ops : Array Oper} {Q : Exit → Act → World → Prop} {md : Region.Mode} {S : World → Prop}
end
end Go.Proofs.YtignfbdgpgidpaaGreatDoor
/- A region that draws its order, walked once in the order of its text, some of whose operations write (a slice made, an append, a store at the end): these stand in one forced order; all others read what the writing ones ahead of the last leave as it is. -/
namespace Go.Proofs.YtignfbdgpgidpaaGreatDoor
open Go.RowKit
set_option linter.unusedVariables false
set_option linter.unusedSimpArgs false
section
variable {P : Program} {ops : Array Oper} {Q : Exit → Act → World → Prop} {md : Region.Mode} {S : World → Prop} {M : List Nat} {W : Nat → World}
end
end Go.Proofs.YtignfbdgpgidpaaGreatDoor
/- The document's answers of layer 19: With. -/
namespace Go.Proofs.YtignfbdgpgidpaaGreatDoor
open Go.RowKit FsPlain MnPlain
set_option linter.unusedVariables false
set_option linter.unusedSimpArgs false
set_option maxRecDepth 20000
theorem mn_results {fn : Func} {p : Tmp} (hfn : fn.results = #[.cell p 27]) {tmps : Array Value} {o : Nat} {x y z : Value} {w : World} (hp : tmps.getD p undef = .pointer (some ⟨o, 0, none⟩)) (hx : x.oneCell' = true) (hy : y.oneCell' = true) (hz : z.oneCell' = true) (hb : w.heap[o]? = some (.cells #[x, y, z] 27 (0, 0))) :
    (results fn tmps).run Tryz.prog w = .ok (.agg #[x, y, z]) w := by
  have c0 : w.cell? ⟨o, 0, none⟩ = some x := by rw [cells_at hb]; rfl
  have c1 : w.cell? ⟨o, 1, none⟩ = some y := by rw [cells_at hb]; rfl
  have c2 : w.cell? ⟨o, 2, none⟩ = some z := by rw [cells_at hb]; rfl
  have hp2 := hp
  rw [Array.getD_eq_getD_getElem?] at hp2
  simp [results, hfn, hp2, go_sem, c0, c1, c2]
end Go.Proofs.YtignfbdgpgidpaaGreatDoor
/- Contracts of the document's Get. -/
namespace Go.Proofs.YtignfbdgpgidpaaGreatDoor
open Go.RowKit OctPlain
set_option linter.unusedVariables false
set_option linter.unusedSimpArgs false
set_option maxRecDepth 20000
end Go.Proofs.YtignfbdgpgidpaaGreatDoor
/- Plain facts of Get's loop; the byte that counts the files. -/
namespace Go.Proofs.YtignfbdgpgidpaaGreatDoor
open Go.RowKit FsPlain CrcPlain OctPlain MnPlain
set_option linter.unusedVariables false
set_option linter.unusedSimpArgs false
namespace MnPlain
theorem get_nat {s : ByteArray} {a k : Int} : 0 ≤ getN s a k := by
  unfold getN
  split <;> omega
theorem get_lt {s : ByteArray} {a : Int} {k : Nat} (hk : 0 < k) : getN s a (k : Int) < ((256 ^ k : Nat) : Int) := by
  unfold getN
  split
  · next h =>
    unfold getB at h
    rw [decide_eq_true_iff] at h
    have := num_lt (cutL s a.toNat k)
    rw [cutL_length _ _ _ (by omega)] at this
    rw [Int.toNat_natCast]
    exact_mod_cast this
  · have := Nat.pow_pos (n := k) (show 0 < 256 by decide)
    omega
theorem get_i64 {s : ByteArray} {a k : Int} : I64 (getN s a k) := by
  unfold getN I64
  split
  · next h =>
    unfold getB at h
    rw [decide_eq_true_iff] at h
    omega
  · omega
end MnPlain
end Go.Proofs.YtignfbdgpgidpaaGreatDoor
/- What Get says: of the program and of the document; results in cells. -/
namespace Go.Proofs.YtignfbdgpgidpaaGreatDoor
open Go.RowKit FsPlain CrcPlain OctPlain MnPlain
set_option linter.unusedVariables false
set_option linter.unusedSimpArgs false
set_option maxRecDepth 20000
def NewFl (w : World) (v : Value) : Prop := ∀ b n c, v = .slice (some b) n c → w.heap.size ≤ b.block
theorem newFl_nil (w : World) (n c : Nat) : NewFl w (.slice none n c) := fun b n' c' e => by cases e
theorem NewFl.low {w u : World} {v : Value} (h : NewFl u v) (g : Gr w u) : NewFl w v := fun b n c e => Nat.le_trans g.size (h b n c e)
def GtSays (s : ByteArray) (w : World) (e : Ending) (w' : World) : Prop :=
  ((∃ m v, mnIs s m ∧ e = .returned (.tuple #[.agg #[.int .i64 m.stage, .int .i64 m.pass, v], .bool true]) ∧ LiesFl w' v m.files ∧ (∀ f ∈ m.files, flK f) ∧ NewFl w v) ∨
    ((∀ m, ¬ mnIs s m) ∧ e = .returned (.tuple #[.agg #[.int .i64 0, .int .i64 0, .slice none 0 0], .bool false]))) ∧ Gr w w'
theorem mn_results2 {fn : Func} {p q : Tmp} (hfn : fn.results = #[.cell p 27, .tmp q]) {tmps : Array Value} {o : Nat} {x y z v : Value} {w : World} (hp : tmps.getD p undef = .pointer (some ⟨o, 0, none⟩)) (hv : tmps.getD q undef = v) (hb : w.heap[o]? = some (.cells #[x, y, z] 27 (0, 0))) :
    (results fn tmps).run Tryz.prog w = .ok (.tuple #[.agg #[x, y, z], v]) w := by
  have c0 : w.cell? ⟨o, 0, none⟩ = some x := by rw [cells_at hb]; rfl
  have c1 : w.cell? ⟨o, 1, none⟩ = some y := by rw [cells_at hb]; rfl
  have c2 : w.cell? ⟨o, 2, none⟩ = some z := by rw [cells_at hb]; rfl
  rw [results_cell_tmp hfn, hp, hv]
  simp [go_sem, c0, c1, c2]
theorem mn_store2 {u : World} {q : Nat} {c : Array Value} (hc : u.heap[q]? = some (.cells c 27 (0, 0))) (h3 : c.size = 3) (x y z : Value) :
    (((u.setCell ⟨q, 0, none⟩ x).setCell ⟨q, 1, none⟩ y).setCell ⟨q, 2, none⟩ z).heap[q]? = some (.cells #[x, y, z] 27 (0, 0)) ∧ Only (fun i => i = q) u (((u.setCell ⟨q, 0, none⟩ x).setCell ⟨q, 1, none⟩ y).setCell ⟨q, 2, none⟩ z) := by
  refine ⟨?_, ((Only.cell1 u q 0 x).trans (Only.cell1 _ q 1 y)).trans (Only.cell1 _ q 2 z)⟩
  rw [cells_set (cells_set (cells_set hc 0 _) 1 _) 2 _]
  match c, h3 with
  | ⟨[_, _, _]⟩, _ => rfl
theorem LiesFl.stay {w w' : World} {v : Value} {l : List Fl} {q : Nat} (h : LiesFl w v l) (o : Only (fun i => i = q) w w') (hq : ∀ b n c, v = .slice (some b) n c → b.block ≠ q) : LiesFl w' v l := by
  obtain ⟨a, c, e, hc, h⟩ := h
  refine ⟨a, c, e, hc, h.imp id fun ⟨b, off, e2, k⟩ => ⟨b, off, e2, ?_⟩⟩
  have hb : b ≠ q := hq ⟨b, off, none⟩ l.length c (by rw [e, e2])
  refine ⟨Nat.lt_of_lt_of_le k.1 o.size, fun j x hj => ?_⟩
  obtain ⟨k0, k1, k2, k3⟩ := k.2 j x hj
  exact ⟨(o.cell (p := ⟨b, _, none⟩) k.1 hb).trans k0, (o.cell (p := ⟨b, _, none⟩) k.1 hb).trans k1, (o.cell (p := ⟨b, _, none⟩) k.1 hb).trans k2, (o.cell (p := ⟨b, _, none⟩) k.1 hb).trans k3⟩
end Go.Proofs.YtignfbdgpgidpaaGreatDoor
