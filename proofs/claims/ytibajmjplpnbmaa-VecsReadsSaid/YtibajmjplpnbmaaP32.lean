/- In one text: VcGet. -/
import Derived.Test.YtibajmjplpnbmaaP31
import Derived.ChangeAlike
import Derived.Deep.QuietTactic
import Derived.BigQuiet
/- The program's store: Get. -/
namespace Go.Proofs.Ytibajmjplpnbmaa
open Go.RowKit FsPlain OctPlain DsPlain
set_option linter.unusedVariables false
set_option linter.unusedSimpArgs false
set_option maxRecDepth 20000
theorem cell_grV {w w' : World} {b i : Nat} {v : Value} (g : Gr w w') (h : w.cell? ⟨b, i, none⟩ = some v) : w'.cell? ⟨b, i, none⟩ = some v := by
  rw [Below.cell g (p := ⟨b, i, none⟩) (World.block_lt_of_cell? w _ h)]; exact h
/-- A row of numbers of one's own, as a part. -/
def OwnI (v : Value) (l : List Int) : Asn := fun w B => w.ownsRow 0 3 1 v l.length (ints l) ∧ (∀ b, v.ownBlock = some b → B b) ∧ ∀ b, B b → b < w.heap.size
theorem fr_ownI (v : Value) (l : List Int) : Fr (OwnI v l) where
  fr := fun {w w' B C} ⟨h, hB, hl⟩ o d => by
    refine ⟨⟨h.1, ?_⟩, hB, fun b hb => Nat.lt_of_lt_of_le (hl b hb) o.size⟩
    rcases h.2 with h3 | ⟨g, cap, cur, rfl, h4, h5, h6⟩
    · exact .inl h3
    · exact .inr ⟨g, cap, cur, rfl, h4, by rw [o.block _ (lt_of_block h5) (d g (hB g rfl))]; exact h5, h6⟩
  lo := fun ⟨_, _, hl⟩ => hl
theorem ownI_lies {v : Value} {l : List Int} {w : World} {B : Nat → Prop} (h : OwnI v l w B) : LiesI w v l := liesI_own h.1
/-- A row that a call has just made, beside what was there. -/
theorem ownI_new {P : List Asn} (hP : Frs P) {w w' : World} {B : Nat → Prop} {v : Value} {l : List Int} (h : stars P w B) (hv : w'.ownsRow w.heap.size 3 1 v l.length (ints l)) (g : Gr w w') : ∃ B', stars (OwnI v l :: P) w' B' ∧ Nx B w B' w' :=
  part_new hP h g (B' := fun b => v.ownBlock = some b) ⟨⟨hv.1, hv.2.imp id fun ⟨g, cap, cur, e, _, k⟩ => ⟨g, cap, cur, e, Nat.zero_le _, k⟩⟩, fun b hb => hb, fun b hb => (hv.lt b hb).2⟩ fun b hb => (hv.lt b hb).1
/-- What is kept, without where it lies. -/
def abK (K : List Kp) : List (Int × List Int) := K.map fun x => (x.id, x.l)
/-- An open store as a part. -/
def StA (p D P : Nat) (o : So) (hs : List (Int × List Int)) : Asn := fun w B => ∃ vh K, abK K = hs ∧ stars (sol p D P o vh K) w B
theorem fr_st (p D P : Nat) (o : So) (hs : List (Int × List Int)) : Fr (StA p D P o hs) := ⟨fun ⟨vh, K, e, h⟩ o d => ⟨vh, K, e, (fr_stars (frs_sol _ _ _ _ _ _)).fr h o d⟩, fun ⟨vh, K, e, h⟩ => (fr_stars (frs_sol _ _ _ _ _ _)).lo h⟩
/-- Who comes in, what stays. -/
def cutS (hs : List (Int × List Int)) (room : Nat) : List (Int × List Int) := if hs.length = room then hs.take (room - 1) else hs
/-- What Get answers, and what is kept then. -/
inductive AskS (s : St) (o : So) (hs : List (Int × List Int)) (i : Int) : List Int → Int → List (Int × List Int) → St → Prop
  | range : (i < 0 ∨ (o.n : Int) ≤ i) → AskS s o hs i [] 10 hs s
  | held (a : Nat) (l : List Int) : hs[a]? = some (i, l) → AskS s o hs i l 0 ((i, l) :: hs.eraseIdx a) s
  | read (k : Nat) : i = (k : Int) → k < o.n → (∀ x ∈ hs, x.1 ≠ i) → (readN s o k).2 = 0 → AskS s o hs i (readN s o k).1 0 ((i, (readN s o k).1) :: cutS hs o.room) s.call
  | fail (k : Nat) : i = (k : Int) → k < o.n → (∀ x ∈ hs, x.1 ≠ i) → (readN s o k).2 ≠ 0 → AskS s o hs i [] (readN s o k).2 hs s.call
/-- What Get leaves. -/
def GetS (p D P : Nat) (o : So) (hs : List (Int × List Int)) (s : St) (i : Int) (w : World) (B : Nat → Prop) (x : Ending) (w' : World) : Prop :=
  ∃ v l e hs' s' B', AskS s o hs i l e hs' s' ∧ x = .returned (.tuple #[v, .int .i64 e]) ∧ stars [OwnI v l, StA p D P o hs', DiskA D s'] w' B' ∧ Nx B w B' w'
theorem abK_length (K : List Kp) : (abK K).length = K.length := by simp [abK]
theorem abK_cut (K : List Kp) (room : Nat) : abK (cutK K room) = cutS (abK K) room := by
  unfold cutK cutS
  rw [abK_length]
  split
  · simp [abK]
  · rfl
theorem abK_erase (K : List Kp) (a : Nat) : abK (K.eraseIdx a) = (abK K).eraseIdx a := by
  unfold abK
  rw [List.eraseIdx_eq_take_drop_succ, List.eraseIdx_eq_take_drop_succ, List.map_append, List.map_take, List.map_drop]
theorem sdv_st {p D P : Nat} {o : So} {vh : Value} {K : List Kp} {s : St} {w : World} {B : Nat → Prop} (h : stars (sdv p D P o vh K s) w B) : stars [StA p D P o (abK K), DiskA D s] w B := by
  have h1 := stars_app (L := sol p D P o vh K) (M := [DiskA D s]) |>.1 h
  obtain ⟨B1, B2, p1, q, a, e⟩ := h1
  exact ⟨B1, B2, ⟨vh, K, rfl, p1⟩, q, a, e⟩
theorem st_sdv {p D P : Nat} {o : So} {hs : List (Int × List Int)} {s : St} {w : World} {B : Nat → Prop} (h : stars [StA p D P o hs, DiskA D s] w B) : ∃ vh K, abK K = hs ∧ stars (sdv p D P o vh K s) w B := by
  obtain ⟨B1, B2, ⟨vh, K, e, p1⟩, q, a, e2⟩ := h
  exact ⟨vh, K, e, stars_app (L := sol p D P o vh K) (M := [DiskA D s]) |>.2 ⟨B1, B2, p1, q, a, e2⟩⟩
theorem sdv_vec {p D P : Nat} {o : So} {vh : Value} {K : List Kp} {s : St} {w : World} {B : Nat → Prop} (h : stars (sdv p D P o vh K s) w B) : ∀ x ∈ K, LiesI w x.v x.l := by
  obtain ⟨_, h, _⟩ := part_at 2 rfl h
  exact fun x hx => (h.1 x hx).1
theorem sdv_row {p D P : Nat} {o : So} {vh : Value} {K : List Kp} {s : St} {w : World} {B : Nat → Prop} (h : stars (sdv p D P o vh K s) w B) : OwnK w vh K := by
  obtain ⟨_, h, _⟩ := part_at 1 rfl h
  exact h.1
theorem getS_none {p D P : Nat} {o : So} {hs hs' : List (Int × List Int)} {s s' : St} {i e : Int} {w w' : World} {B B' : Nat → Prop} (ha : AskS s o hs i [] e hs' s') (h : stars [StA p D P o hs', DiskA D s'] w' B') (n : Nx B w B' w') : GetS p D P o hs s i w B (.returned (.tuple #[.slice none 0 0, .int .i64 e])) w' := by
  obtain ⟨B2, h2, n2⟩ := ownI_new (P := [StA p D P o hs', DiskA D s']) ⟨fr_st _ _ _ _ _, fr_disk _ _, trivial⟩ (v := .slice none 0 0) (l := []) h (World.ownsRow_nil _ _ _ _) (Gr.refl _)
  exact ⟨_, _, _, _, _, B2, ha, rfl, h2, n.trans n2⟩
end Go.Proofs.Ytibajmjplpnbmaa
