/- The program's tree of losers in memory: its block; who is ahead. -/
import Derived.Test.YtifpiekajbcoiaaLoCmp
import Derived.Test.YtifpiekajbcoiaaLoArg
import Derived.Deep.RegionHeld3
namespace Go.Proofs.Ytifpiekajbcoiaa
open Go.RowKit LoPlain
set_option linter.unusedVariables false
set_option linter.unusedSimpArgs false
set_option maxRecDepth 20000
/-- What the program keeps of a head. -/
def keptS (x : Hd) : ByteArray := if x.o = true then ⟨#[]⟩ else x.s
/-- A tree's cells: how many sources, how many are left, the sources that g tells, the losers, the winner. -/
structure TrC (n : Nat) (g : Nat → Option Hd) (left : Int) (f : Nat → Int) (win : Int) (cs : Array Value) : Prop where
  size : cs.size = 195
  c0 : cs[0]? = some (.int .i64 (n : Int))
  c1 : cs[1]? = some (.int .i64 left)
  src : ∀ i x, i < 64 → g i = some x → cs[2 + i * 2]? = some (.string (keptS x)) ∧ cs[2 + i * 2 + 1]? = some (.bool x.o)
  los : ∀ q, q < 64 → cs[130 + q]? = some (.int .i64 (f q))
  wn : cs[194]? = some (.int .i64 win)
def setA (g : Nat → Option Hd) (i : Nat) (x : Hd) : Nat → Option Hd := fun j => if j = i then some x else g j
theorem sib_get (cs : Array Value) (i j : Nat) (v : Value) (hi : i < cs.size) : (cs.setIfInBounds i v)[j]? = if i = j then some v else cs[j]? := by
  by_cases e : i = j
  · subst e; rw [if_pos rfl]; simp [hi]
  · rw [if_neg e]; exact Array.getElem?_setIfInBounds_ne e
theorem TrC.left {n : Nat} {g : Nat → Option Hd} {left : Int} {f : Nat → Int} {win : Int} {cs : Array Value} (h : TrC n g left f win cs) (v : Int) : TrC n g v f win (cs.setIfInBounds 1 (.int .i64 v)) := by
  have hs := h.size
  have k : ∀ j, (cs.setIfInBounds 1 (.int .i64 v))[j]? = if 1 = j then some (.int .i64 v) else cs[j]? := fun j => sib_get cs 1 j _ (by omega)
  refine ⟨by simp [hs], by rw [k, if_neg (by omega)]; exact h.c0, by rw [k, if_pos rfl], fun i x hi hg => ?_, fun q hq => by rw [k, if_neg (by omega)]; exact h.los q hq, by rw [k, if_neg (by omega)]; exact h.wn⟩
  rw [k, k, if_neg (by omega), if_neg (by omega)]
  exact h.src i x hi hg
theorem TrC.win {n : Nat} {g : Nat → Option Hd} {left : Int} {f : Nat → Int} {win : Int} {cs : Array Value} (h : TrC n g left f win cs) (v : Int) : TrC n g left f v (cs.setIfInBounds 194 (.int .i64 v)) := by
  have hs := h.size
  have k : ∀ j, (cs.setIfInBounds 194 (.int .i64 v))[j]? = if 194 = j then some (.int .i64 v) else cs[j]? := fun j => sib_get cs 194 j _ (by omega)
  refine ⟨by simp [hs], by rw [k, if_neg (by omega)]; exact h.c0, by rw [k, if_neg (by omega)]; exact h.c1, fun i x hi hg => ?_, fun q hq => by rw [k, if_neg (by omega)]; exact h.los q hq, by rw [k, if_pos rfl]⟩
  rw [k, k, if_neg (by omega), if_neg (by omega)]
  exact h.src i x hi hg
theorem TrC.put {n : Nat} {g : Nat → Option Hd} {left : Int} {f : Nat → Int} {win : Int} {cs : Array Value} (h : TrC n g left f win cs) {p : Nat} (hp : p < 64) (v : Int) : TrC n g left (updA f p v) win (cs.setIfInBounds (130 + p) (.int .i64 v)) := by
  have hs := h.size
  have k : ∀ j, (cs.setIfInBounds (130 + p) (.int .i64 v))[j]? = if 130 + p = j then some (.int .i64 v) else cs[j]? := fun j => sib_get cs (130 + p) j _ (by omega)
  refine ⟨by simp [hs], by rw [k, if_neg (by omega)]; exact h.c0, by rw [k, if_neg (by omega)]; exact h.c1, fun i x hi hg => ?_, fun q hq => ?_, by rw [k, if_neg (by omega)]; exact h.wn⟩
  · rw [k, k, if_neg (by omega), if_neg (by omega)]
    exact h.src i x hi hg
  · rw [k]
    by_cases e : q = p
    · subst e; rw [if_pos rfl, upd_at]
    · rw [if_neg (by omega), upd_ne _ _ e]; exact h.los q hq
theorem TrC.set {n : Nat} {g : Nat → Option Hd} {left : Int} {f : Nat → Int} {win : Int} {cs : Array Value} (h : TrC n g left f win cs) {i : Nat} (hi : i < 64) (x : Hd) :
    TrC n (setA g i x) left f win ((cs.setIfInBounds (2 + i * 2) (.string (keptS x))).setIfInBounds (2 + i * 2 + 1) (.bool x.o)) := by
  have hs := h.size
  have k : ∀ j, ((cs.setIfInBounds (2 + i * 2) (.string (keptS x))).setIfInBounds (2 + i * 2 + 1) (.bool x.o))[j]? = if 2 + i * 2 + 1 = j then some (.bool x.o) else if 2 + i * 2 = j then some (.string (keptS x)) else cs[j]? := fun j => by
    rw [sib_get _ _ _ _ (by simp; omega), sib_get _ _ _ _ (by omega)]
  refine ⟨by simp [hs], by rw [k, if_neg (by omega), if_neg (by omega)]; exact h.c0, by rw [k, if_neg (by omega), if_neg (by omega)]; exact h.c1, fun j y hj hg => ?_, fun q hq => by rw [k, if_neg (by omega), if_neg (by omega)]; exact h.los q hq, by rw [k, if_neg (by omega), if_neg (by omega)]; exact h.wn⟩
  unfold setA at hg
  by_cases e : j = i
  · subst e
    rw [if_pos rfl] at hg
    cases hg
    rw [k, k, if_neg (by omega), if_pos rfl, if_pos rfl]
    exact ⟨rfl, rfl⟩
  · rw [if_neg e] at hg
    rw [k, k, if_neg (by omega), if_neg (by omega), if_neg (by omega), if_neg (by omega)]
    exact h.src j y hj hg
/-- A tree as a part of a world. -/
def TrA (p n : Nat) (g : Nat → Option Hd) (left : Int) (f : Nat → Int) (win : Int) : Asn := fun w B => ∃ cs, Blk p cs 51 w B ∧ TrC n g left f win cs
theorem fr_tr (p n : Nat) (g : Nat → Option Hd) (left : Int) (f : Nat → Int) (win : Int) : Fr (TrA p n g left f win) where
  fr := fun ⟨cs, h, k⟩ o d => ⟨cs, (fr_blk _ _ _).fr h o d, k⟩
  lo := fun ⟨cs, h, _⟩ b hb => (fr_blk _ _ _).lo h b hb
theorem ret_b15 {p q : Bool} (h : p = q) : Ending.returned (.bool p) = .returned (.bool q) := by rw [h]
/-- Who is ahead, as the program tells it. -/
def ahdV (x y : Hd) (a b : Nat) : Bool := if x.o = y.o then (if cmpS (keptS x) (keptS y) = 0 then decide (cmpI a b < 0) else decide (cmpS (keptS x) (keptS y) < 0)) else y.o
theorem ahdV_is {l : List Hd} {a b : Nat} {x y : Hd} (hx : l[a]? = some x) (hy : l[b]? = some y) : ahdV x y a b = ahd l a b := by
  have hI : decide (cmpI (a : Int) (b : Int) < 0) = decide (a < b) := by
    unfold cmpI
    by_cases h : a < b
    · rw [if_pos (by omega)]; simp [h]
    · rw [if_neg (by omega)]
      split <;> simp [h]
  unfold ahdV ahd
  rw [oAt_at hx, oAt_at hy, sAt_at hx, sAt_at hy, hI]
  unfold keptS
  cases h1 : x.o <;> cases h2 : y.o <;> simp
  · by_cases e : x.s = y.s
    · rw [if_pos ((cmpS_zero _ _).2 e)]
      rw [e, lt_irrefl15]; simp
    · rw [if_neg (fun h => e ((cmpS_zero _ _).1 h))]
      have := cmpS_lt x.s y.s
      cases hl : ltS x.s y.s
      · rw [hl] at this; simp [e]; simp at this; exact this
      · rw [hl] at this; simp [e]; simp at this; exact this
  · intro h
    exact absurd ((cmpS_zero ⟨#[]⟩ ⟨#[]⟩).2 rfl) h
end Go.Proofs.Ytifpiekajbcoiaa
