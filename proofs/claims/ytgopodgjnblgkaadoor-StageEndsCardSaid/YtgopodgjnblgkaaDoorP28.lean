/- In one text: MnRow. -/
import Derived.Test.YtgopodgjnblgkaaDoorP26
import Derived.Test.YtgopodgjnblgkaaDoorP21
import Derived.Test.YtgopodgjnblgkaaDoorP11
import Derived.Test.YtgopodgjnblgkaaDoorP27
import Derived.Deep.AppendLies
/- Rows of files of one's own. -/
namespace Go.Proofs.YtgopodgjnblgkaaDoor
open Go.RowKit FsPlain MnPlain
set_option linter.unusedVariables false
set_option linter.unusedSimpArgs false
set_option maxRecDepth 20000
/-- The cells of files. -/
def flc (x : Fl) : List Value := [.string x.name, .int .i64 x.size, .int .i64 x.count, .int .u32 x.sum]
def fls : List Fl → List Value
  | [] => []
  | x :: l => .string x.name :: .int .i64 x.size :: .int .i64 x.count :: .int .u32 x.sum :: fls l
theorem fls_length : ∀ l : List Fl, (fls l).length = l.length * 4
  | [] => rfl
  | x :: l => by simp only [fls, List.length_cons, fls_length l]; omega
theorem fls_snoc : ∀ (l : List Fl) (x : Fl), fls (l ++ [x]) = fls l ++ flc x
  | [], x => rfl
  | y :: l, x => by simp only [fls, List.cons_append, fls_snoc l x]
theorem fls_at : ∀ {l : List Fl} {j : Nat} {x : Fl}, l[j]? = some x → (fls l)[j * 4]? = some (.string x.name) ∧ (fls l)[j * 4 + 1]? = some (.int .i64 x.size) ∧ (fls l)[j * 4 + 2]? = some (.int .i64 x.count) ∧ (fls l)[j * 4 + 3]? = some (.int .u32 x.sum)
  | [], j, x, h => by simp at h
  | y :: l, 0, x, h => by
    obtain rfl : y = x := by simpa using h
    exact ⟨rfl, rfl, rfl, rfl⟩
  | y :: l, j + 1, x, h => by
    have h' : l[j]? = some x := by simpa using h
    have e : (j + 1) * 4 = j * 4 + 1 + 1 + 1 + 1 := by omega
    obtain ⟨h1, h2, h3, h4⟩ := fls_at h'
    rw [e]
    exact ⟨h1, h2, h3, h4⟩
theorem flc_one (x : Fl) : ∀ u ∈ flc x, u.oneCell' = true := by
  intro u h
  simp only [flc, List.mem_cons, List.not_mem_nil, or_false] at h
  rcases h with rfl | rfl | rfl | rfl <;> rfl
theorem infoFl : (Tryd.prog.info? 43).map (fun i => (i.zero, i.size, i.bytes)) = some (some (.agg #[.string ⟨#[]⟩, .int .i64 0, .int .i64 0, .int .u32 0]), 4, 40) := by kernel_rfl
theorem liesFl_own {w : World} {B : Nat} {v : Value} {l : List Fl} (h : w.ownsRow B 43 4 v l.length (fls l)) : LiesFl w v l := by
  have hc := @World.ownsRow.cells w _ _ _ _ _ _ h
  have hl := h.lt
  obtain ⟨_, p⟩ := h
  rcases p with ⟨rfl, z⟩ | ⟨g, cap, cur, rfl, _, _, hn, _⟩
  · exact ⟨none, 0, by rw [z], by omega, .inl (List.eq_nil_of_length_eq_zero z)⟩
  · refine ⟨_, cap, rfl, hn, .inr ⟨g, 0, rfl, (hl g rfl).2, fun j x hj => ?_⟩⟩
    have K : ∀ (k : Nat) (u : Value), (fls l)[k]? = some u → w.cell? ⟨g, k, none⟩ = some u := fun k u hk => by
      have := hc (g := g) rfl k u hk
      have e : (⟨g, 0, none⟩ : Addr).add k = ⟨g, k, none⟩ := by
        cases k with
        | zero => rfl
        | succ k => simp [Addr.add]
      rwa [e] at this
    obtain ⟨a1, a2, a3, a4⟩ := fls_at hj
    rw [Nat.zero_add]
    exact ⟨K _ _ a1, K _ _ a2, K _ _ a3, K _ _ a4⟩
theorem set_length (g : Fl) : ∀ l : List Fl, (setF g l).length = l.length
  | [] => rfl
  | f :: t => by
    show (if f.name = g.name then g :: t else f :: setF g t).length = _
    split
    · rfl
    · rw [List.length_cons, set_length g t, List.length_cons]
theorem grN19 (w : World) (n : Nat) : Gr w (w.drewN n) := Only.toBelow (Only.drewN (fun _ => False) w n) (Nat.le_refl _) fun _ h => h.elim
end Go.Proofs.YtgopodgjnblgkaaDoor
