/- In one text: RnDef2, MgRds, RnPlain, MgNext, LoPlain, LoFact. -/
import Derived.Test.YtpmglnghnelenaaGreatP23
import Derived.Test.YtpmglnghnelenaaGreatP25
import Derived.Test.YtpmglnghnelenaaGreatP00
import Derived.Lib.Strings
/- Calls that are put off, beside whatever else there is. -/
namespace Go.Proofs.YtpmglnghnelenaaGreat
open Go.RowKit FsPlain CrcPlain OctPlain FramePlain RecPlain RdPlain WrPlain
set_option linter.unusedVariables false
set_option linter.unusedSimpArgs false
set_option maxRecDepth 20000
theorem does_pre_d {Pr : Program} {f : FuncId} {args : Array Value} {v : Value} {u : FrameMode} {w : World} {B : Nat → Prop} (L : List Asn) {L' M : List Asn} (hM : Frs M) (h : stars (L ++ M) w B) (k : ∀ B1, stars L w B1 → CallsD Pr f args u w fun e u' w' => u' = u ∧ Does w B1 (stars L') v e w') : CallsD Pr f args u w fun e u' w' => u' = u ∧ Does w B (stars (L' ++ M)) v e w' := by
  obtain ⟨B1, h1, nx⟩ := pre_nx L hM h
  refine (k B1 h1).mono ?_
  rintro e u' w' ⟨hu, he, B', h', n⟩
  obtain ⟨B3, k3, n3⟩ := nx L' w' B' h' n
  exact ⟨hu, he, B3, k3, n3⟩
theorem wr_drop_d {x D P : Nat} {m : M3} (u : FrameMode) {w : World} {B : Nat → Prop} {M : List Asn} (hM : Frs M) (h : stars ([WrA x D P m.x, DiskA D m.s, BuA P m.b] ++ M) w B) :
    CallsD Tryz.prog 27 #[.pointer (some ⟨x, 0, none⟩)] u w fun e u' w' => u' = u ∧ Does w B (stars ([WrA x D P (dropM m).x, DiskA D (dropM m).s, BuA P (dropM m).b] ++ M)) (.tuple #[]) e w' :=
  does_pre_d (L' := [WrA x D P (dropM m).x, DiskA D (dropM m).s, BuA P (dropM m).b]) [WrA x D P m.x, DiskA D m.s, BuA P m.b] hM h fun B1 h1 => w_drop_d u x D P m w B1 h1
theorem rd_close_d {x D P : Nat} {m : N3} (u : FrameMode) (hi : m.inv) {w : World} {B : Nat → Prop} {M : List Asn} (hM : Frs M) (h : stars ([RdP x D P m.x, DiskA D m.s, BuA P m.b] ++ M) w B) :
    CallsD Tryz.prog 29 #[.pointer (some ⟨x, 0, none⟩)] u w fun e u' w' => u' = u ∧ Does w B (stars ([RdP x D P (closeN m).x, DiskA D (closeN m).s, BuA P (closeN m).b] ++ M)) (.tuple #[]) e w' :=
  does_pre_d (L' := [RdP x D P (closeN m).x, DiskA D (closeN m).s, BuA P (closeN m).b]) [RdP x D P m.x, DiskA D m.s, BuA P m.b] hM h fun B1 h1 => (rp_close_d u x D P m hi w B1 (rd_join h1)).mono fun e u' w' ⟨hu, he, B', h', n⟩ => ⟨hu, he, B', rd_split h', n⟩
theorem bu_give_d {P : Nat} {b : Bu} (n : Int) (u : FrameMode) {w : World} {B : Nat → Prop} {M : List Asn} (hM : Frs M) (h : stars ([BuA P b] ++ M) w B) :
    CallsD Tryz.prog 54 #[.pointer (some ⟨P, 0, none⟩), .int .i64 n] u w fun e u' w' => u' = u ∧ Does w B (stars ([BuA P (b.give n)] ++ M)) (.tuple #[]) e w' := by
  refine does_pre_d (L' := [BuA P (b.give n)]) [BuA P b] hM h fun B1 h1 => ?_
  obtain ⟨Ba, Bb, hb, hnil, a, e⟩ := h1
  have hBa : BuA P b w B1 := by
    have : Ba = B1 := by funext x; rw [eq_iff_iff, e x]; exact ⟨.inl, fun k => k.resolve_right (hnil x)⟩
    rw [← this]; exact hb
  refine (bgive_d u P b n w hBa.at).mono ?_
  rintro e u' w' ⟨hu, he, k, g⟩
  obtain ⟨B', h', n'⟩ := bu_next hBa k g
  exact ⟨hu, he, B', stars_one h', n'⟩
end Go.Proofs.YtpmglnghnelenaaGreat
/- Several readers over one disk and one budget, as parts in a list. -/
namespace Go.Proofs.YtpmglnghnelenaaGreat
open Go.RowKit FsPlain CrcPlain OctPlain FramePlain RecPlain RdPlain WrPlain
set_option linter.unusedVariables false
set_option linter.unusedSimpArgs false
set_option maxRecDepth 20000
/-- Readers: where each lies, and what it is. -/
def rdsA (D P : Nat) (rs : List (Nat × Rs)) : List Asn := rs.map fun r => RdP r.1 D P r.2
theorem frs_rds (D P : Nat) : ∀ rs : List (Nat × Rs), Frs (rdsA D P rs)
  | [] => trivial
  | r :: rs => ⟨fr_rdp _ _ _ _, frs_rds D P rs⟩
theorem perm_idx {α : Type} : ∀ {l : List α} {i : Nat} {a : α}, l[i]? = some a → l.Perm (a :: l.eraseIdx i)
  | [], i, a, h => by simp at h
  | x :: l, 0, a, h => by
    simp only [List.getElem?_cons_zero, Option.some.injEq] at h
    subst h
    exact List.Perm.refl _
  | x :: l, i + 1, a, h => by
    simp only [List.getElem?_cons_succ] at h
    exact ((perm_idx h).cons x).trans (List.Perm.swap a x _)
theorem rds_out {D P : Nat} {rs : List (Nat × Rs)} {i x : Nat} {y : Rs} (h : rs[i]? = some (x, y)) (d b : Asn) (M : List Asn) : (rdsA D P rs ++ ([d, b] ++ M)).Perm ([RdP x D P y, d, b] ++ (rdsA D P (rs.eraseIdx i) ++ M)) := by
  have h1 : (rdsA D P rs).Perm (RdP x D P y :: rdsA D P (rs.eraseIdx i)) := (perm_idx h).map fun r : Nat × Rs => RdP r.1 D P r.2
  refine (h1.append_right _).trans ?_
  show (RdP x D P y :: (rdsA D P (rs.eraseIdx i) ++ ([d, b] ++ M))).Perm (RdP x D P y :: ([d, b] ++ (rdsA D P (rs.eraseIdx i) ++ M)))
  refine List.Perm.cons _ ?_
  rw [← List.append_assoc, ← List.append_assoc]
  exact List.perm_append_comm.append_right M
theorem rds_in {D P : Nat} {rs : List (Nat × Rs)} {i x : Nat} {y y' : Rs} (h : rs[i]? = some (x, y)) (d b : Asn) (M : List Asn) : ([RdP x D P y', d, b] ++ (rdsA D P (rs.eraseIdx i) ++ M)).Perm (rdsA D P (rs.set i (x, y')) ++ ([d, b] ++ M)) := by
  have hi := (List.getElem?_eq_some_iff.1 h).1
  have h2 := rds_out (D := D) (P := P) (rs := rs.set i (x, y')) (i := i) (x := x) (y := y') (List.getElem?_set_self hi) d b M
  rw [List.eraseIdx_set_eq] at h2
  exact h2.symm
theorem frs_rest {D P : Nat} (rs : List (Nat × Rs)) {M : List Asn} (hM : Frs M) : Frs (rdsA D P rs ++ M) := frs_app (frs_rds D P rs) hM
/-- The next record of the i-th one. -/
theorem rds_next {D P : Nat} {rs : List (Nat × Rs)} {s : St} {b : Bu} {i x : Nat} {y : Rs} (hi : rs[i]? = some (x, y)) (hok : N3.ok ⟨s, b, y⟩) (hv : N3.inv ⟨s, b, y⟩) (ht : y.told ≤ 50000) (hc : s.calls ≤ 1000000000000) {w : World} {B : Nat → Prop} {M : List Asn} (hM : Frs M) (h : stars (rdsA D P rs ++ ([DiskA D s, BuA P b] ++ M)) w B) :
    Calls Tryz.prog 88 #[.pointer (some ⟨x, 0, none⟩)] w (Does w B (stars (rdsA D P (rs.set i (x, (nextN ⟨s, b, y⟩).1.x)) ++ ([DiskA D (nextN ⟨s, b, y⟩).1.s, BuA P (nextN ⟨s, b, y⟩).1.b] ++ M))) (ansV (nextN ⟨s, b, y⟩).2)) :=
  (rd_next (m := ⟨s, b, y⟩) hok hv ht hc (frs_rest _ hM) (stars_perm (rds_out hi _ _ _) h)).mono fun e w' hd => hd.imp fun B' q => stars_perm (rds_in hi _ _ _) q
/-- One of them is shut. -/
theorem rds_close {D P : Nat} {rs : List (Nat × Rs)} {s : St} {b : Bu} {i x : Nat} {y : Rs} (hi : rs[i]? = some (x, y)) (hv : N3.inv ⟨s, b, y⟩) {w : World} {B : Nat → Prop} {M : List Asn} (hM : Frs M) (h : stars (rdsA D P rs ++ ([DiskA D s, BuA P b] ++ M)) w B) :
    Calls Tryz.prog 29 #[.pointer (some ⟨x, 0, none⟩)] w (Does w B (stars (rdsA D P (rs.set i (x, (closeN ⟨s, b, y⟩).x)) ++ ([DiskA D (closeN ⟨s, b, y⟩).s, BuA P (closeN ⟨s, b, y⟩).b] ++ M))) (.tuple #[])) :=
  (rd_close (m := ⟨s, b, y⟩) hv (frs_rest _ hM) (stars_perm (rds_out hi _ _ _) h)).mono fun e w' hd => hd.imp fun B' q => stars_perm (rds_in hi _ _ _) q
theorem rds_close_d {D P : Nat} {rs : List (Nat × Rs)} {s : St} {b : Bu} {i x : Nat} {y : Rs} (u : FrameMode) (hi : rs[i]? = some (x, y)) (hv : N3.inv ⟨s, b, y⟩) {w : World} {B : Nat → Prop} {M : List Asn} (hM : Frs M) (h : stars (rdsA D P rs ++ ([DiskA D s, BuA P b] ++ M)) w B) :
    CallsD Tryz.prog 29 #[.pointer (some ⟨x, 0, none⟩)] u w fun e u' w' => u' = u ∧ Does w B (stars (rdsA D P (rs.set i (x, (closeN ⟨s, b, y⟩).x)) ++ ([DiskA D (closeN ⟨s, b, y⟩).s, BuA P (closeN ⟨s, b, y⟩).b] ++ M))) (.tuple #[]) e w' :=
  (rd_close_d (m := ⟨s, b, y⟩) u hv (frs_rest _ hM) (stars_perm (rds_out hi _ _ _) h)).mono fun e u' w' hd => ⟨hd.1, hd.2.imp fun B' q => stars_perm (rds_in hi _ _ _) q⟩
theorem rds_snoc (D P : Nat) (rs : List (Nat × Rs)) (x : Nat) (y : Rs) (d b : Asn) (M : List Asn) : ([RdP x D P y, d, b] ++ (rdsA D P rs ++ M)).Perm (rdsA D P (rs ++ [(x, y)]) ++ ([d, b] ++ M)) := by
  have e : rdsA D P (rs ++ [(x, y)]) = rdsA D P rs ++ [RdP x D P y] := by unfold rdsA; rw [List.map_append]; rfl
  rw [e, List.append_assoc]
  show ([RdP x D P y, d, b] ++ (rdsA D P rs ++ M)).Perm (rdsA D P rs ++ ([RdP x D P y, d, b] ++ M))
  rw [← List.append_assoc, ← List.append_assoc]
  exact List.perm_append_comm.append_right M
theorem rds_head (D P : Nat) (rs : List (Nat × Rs)) (d b : Asn) (M : List Asn) : (rdsA D P rs ++ ([d, b] ++ M)).Perm ([d, b] ++ (rdsA D P rs ++ M)) := by
  rw [← List.append_assoc, ← List.append_assoc]
  exact List.perm_append_comm.append_right M
/-- One more is opened. -/
def RdsMade (D P : Nat) (w : World) (B : Nat → Prop) (rs : List (Nat × Rs)) (M : List Asn) (nm : ByteArray) (size : Int) (R : St × Bu × Int × Nat) (e : Ending) (w' : World) : Prop :=
  (R.2.2.1 = 0 ∧ ∃ x, Does w B (stars (rdsA D P (rs ++ [(x, newRs nm size R.2.2.2)]) ++ ([DiskA D R.1, BuA P R.2.1] ++ M))) (.tuple #[.pointer (some ⟨x, 0, none⟩), .int .i64 0]) e w') ∨
  (R.2.2.1 ≠ 0 ∧ Does w B (stars (rdsA D P rs ++ ([DiskA D R.1, BuA P R.2.1] ++ M))) (.tuple #[.pointer none, .int .i64 R.2.2.1]) e w')
theorem rds_open {D P : Nat} {rs : List (Nat × Rs)} {s : St} {b : Bu} {nm : ByteArray} {size : Int} (hsz : I64 size) (hs : s.ok) (hn : nm.size ≤ 24) (hm : rightB nm.data.toList = true) (hc : s.calls ≤ 100000000000) {w : World} {B : Nat → Prop} {M : List Asn} (hM : Frs M) (h : stars (rdsA D P rs ++ ([DiskA D s, BuA P b] ++ M)) w B) :
    Calls Tryz.prog 28 #[.pointer (some ⟨D, 0, none⟩), .pointer (some ⟨P, 0, none⟩), .string nm, .int .i64 size] w (RdsMade D P w B rs M nm size (openN s b nm size)) := by
  refine (rd_open hsz hs hn hm hc (frs_rest rs hM) (stars_perm (rds_head D P rs _ _ M) h)).mono ?_
  rintro e w' (⟨h0, x, hd⟩ | ⟨h0, hd⟩)
  · exact .inl ⟨h0, x, hd.imp fun B' q => stars_perm (rds_snoc D P rs _ _ _ _ M) q⟩
  · exact .inr ⟨h0, hd.imp fun B' q => stars_perm (rds_head D P rs _ _ M).symm q⟩
end Go.Proofs.YtpmglnghnelenaaGreat
/- Runs: texts in order, at most so many; plain. -/
namespace Go.Proofs.YtpmglnghnelenaaGreat
open Go.RowKit
set_option linter.unusedVariables false
set_option linter.unusedSimpArgs false
set_option maxRecDepth 20000
namespace RnPlain
def ltT (a b : ByteArray) : Bool := Op.bytesLess a.toList b.toList
/-- a is no later than b. -/
def leT (a b : ByteArray) : Bool := ltT a b || (a.toList == b.toList)
def digB (n : Nat) : List UInt8 := if n < 10 then [UInt8.ofNat (48 + n)] else digB (n / 10) ++ [UInt8.ofNat (48 + n % 10)]
termination_by n
decreasing_by omega
def nameN (s : ByteArray) (i : Int) : ByteArray := if i < 0 then ⟨#[]⟩ else (s ++ bs [46]) ++ bs (digB i.toNat)
def insT (l : List ByteArray) (s : ByteArray) : List ByteArray := l.takeWhile (fun x => leT x s) ++ s :: l.dropWhile (fun x => leT x s)
def hasT (l : List ByteArray) (s : ByteArray) : Bool := l.any fun x => decide (x = s)
def putT (u : Bool) (l : List ByteArray) (s : ByteArray) : List ByteArray := if (!u || !hasT l s) = true then insT l s else l
def sortT (l : List ByteArray) (u : Bool) : List ByteArray := l.foldl (putT u) []
/-- Each m of them, from the front on. -/
def runsT (m : Nat) (u : Bool) : Nat → List ByteArray → List (List ByteArray)
  | 0, _ => []
  | f + 1, l => if l.isEmpty = true then [] else sortT (l.take m) u :: runsT m u f (l.drop m)
theorem digB_small {n : Nat} (h : n < 10) : digB n = [UInt8.ofNat (48 + n)] := by rw [digB, if_pos h]
theorem digB_big {n : Nat} (h : ¬ n < 10) : digB n = digB (n / 10) ++ [UInt8.ofNat (48 + n % 10)] := by rw [digB, if_neg h]
theorem digB_le : ∀ f n, n < f → (digB n).length ≤ n + 1
  | f + 1, n, h => by
    by_cases h10 : n < 10
    · rw [digB_small h10]; simp
    · rw [digB_big h10, List.length_append]
      have := digB_le f (n / 10) (by omega)
      simp only [List.length_singleton]
      omega
theorem insT_length (l : List ByteArray) (s : ByteArray) : (insT l s).length = l.length + 1 := by
  unfold insT
  have := congrArg List.length (List.takeWhile_append_dropWhile (p := fun x => leT x s) (l := l))
  rw [List.length_append] at this
  rw [List.length_append, List.length_cons]
  omega
theorem putT_le (u : Bool) (l : List ByteArray) (s : ByteArray) : (putT u l s).length ≤ l.length + 1 := by
  unfold putT
  split
  · rw [insT_length]; exact Nat.le_refl _
  · omega
theorem sortT_snoc (l : List ByteArray) (u : Bool) (s : ByteArray) : sortT (l ++ [s]) u = putT u (sortT l u) s := by unfold sortT; rw [List.foldl_append]; rfl
theorem sortT_le (l : List ByteArray) (u : Bool) : (sortT l u).length ≤ l.length := by
  have key : ∀ (l acc : List ByteArray), (l.foldl (putT u) acc).length ≤ acc.length + l.length := by
    intro l
    induction l with
    | nil => intro acc; simp
    | cons x r ih =>
      intro acc
      have h1 := ih (putT u acc x)
      have h2 := putT_le u acc x
      simp only [List.foldl_cons, List.length_cons]
      omega
  simpa [sortT] using key l []
/-- The first ones that are no later than s, one more of them. -/
theorem tw_step {l : List ByteArray} {s x : ByteArray} {j : Nat} (h : ∀ y ∈ l.take j, leT y s = true) (hx : l[j]? = some x) (hl : leT x s = true) : ∀ y ∈ l.take (j + 1), leT y s = true := by
  intro y hy
  rw [List.take_add_one, hx] at hy
  rcases List.mem_append.1 hy with hy | hy
  · exact h y hy
  · have : y = x := by simpa using hy
    rw [this]; exact hl
theorem tw_end : ∀ {l : List ByteArray} {s : ByteArray} {j : Nat}, (∀ y ∈ l.take j, leT y s = true) → (∀ x, l[j]? = some x → leT x s = false) → insT l s = l.take j ++ s :: l.drop j
  | [], s, j, _, _ => by simp [insT]
  | x :: r, s, 0, _, h => by
    have := h x rfl
    simp [insT, List.takeWhile, List.dropWhile, this]
  | x :: r, s, j + 1, h1, h2 => by
    have hx := h1 x (by simp)
    have ih := tw_end (l := r) (s := s) (j := j) (fun y hy => h1 y (by simp [hy])) (fun y hy => h2 y (by simpa using hy))
    unfold insT at ih ⊢
    simp only [List.takeWhile_cons, List.dropWhile_cons, hx, if_true, List.take_succ_cons, List.drop_succ_cons, List.cons_append]
    rw [ih]
end RnPlain
end Go.Proofs.YtpmglnghnelenaaGreat
/- The program's source: the record behind the one ahead of it. -/
namespace Go.Proofs.YtpmglnghnelenaaGreat
open Go.RowKit FsPlain CrcPlain OctPlain FramePlain RecPlain RdPlain RnPlain WrPlain
set_option linter.unusedVariables false
set_option linter.unusedSimpArgs false
set_option maxRecDepth 20000
/-- A source, as a value. -/
def srcV (x : Nat) : Value := .agg #[.pointer (some ⟨x, 0, none⟩)]
/-- What is told behind the record ahead. -/
def ansM (ahead : ByteArray) (R : ByteArray × Bool × Int) : Value := if (R.2.1 && ltT R.1 ahead) = true then .tuple #[.string ⟨#[]⟩, .bool false, .int .i64 13] else ansV R
theorem src_new (x : Nat) (w : World) : ∃ W, W = w.alloc (.cells #[.pointer (some ⟨x, 0, none⟩)] 66) ∧ Gr w W ∧ W.cell? ⟨w.heap.size, 0, none⟩ = some (.pointer (some ⟨x, 0, none⟩)) := by
  refine ⟨_, rfl, Below.alloc (Below.refl _ _) (Nat.le_refl _) _, ?_⟩
  rw [World.cell?_alloc_mark]; rfl
set_option maxHeartbeats 2000000 in
theorem mnext_c {D P : Nat} {rs : List (Nat × Rs)} {s : St} {b : Bu} {i x : Nat} {y : Rs} (ahead : ByteArray) (hi : rs[i]? = some (x, y)) (hok : N3.ok ⟨s, b, y⟩) (hv : N3.inv ⟨s, b, y⟩) (ht : y.told ≤ 50000) (hc : s.calls ≤ 1000000000000) {w : World} {B : Nat → Prop} {M : List Asn} (hM : Frs M) (h : stars (rdsA D P rs ++ ([DiskA D s, BuA P b] ++ M)) w B) :
    Calls Tryz.prog 64 #[srcV x, .string ahead] w (Does w B (stars (rdsA D P (rs.set i (x, (nextN ⟨s, b, y⟩).1.x)) ++ ([DiskA D (nextN ⟨s, b, y⟩).1.s, BuA P (nextN ⟨s, b, y⟩).1.b] ++ M))) (ansM ahead (nextN ⟨s, b, y⟩).2)) := by
  obtain ⟨W, hW, g, k⟩ := src_new x w
  have FR : Frs (rdsA D P rs ++ ([DiskA D s, BuA P b] ++ M)) := frs_app (frs_rds D P rs) (frs_app (L := [DiskA D s, BuA P b]) ⟨fr_disk _ _, fr_bu _ _, trivial⟩ hM)
  have C := Lib.hid (rds_next hi hok hv ht hc hM (stars_gr FR h g))
  obtain ⟨⟨N, r, o, er⟩, hR⟩ : ∃ X, nextN ⟨s, b, y⟩ = X := ⟨_, rfl⟩
  rw [hR] at C ⊢
  unfold ansV at C
  unfold srcV
  have HW := Lib.hid hW
  have G := Lib.hid g
  clear hW h hi hok hv ht hc hM hR g FR
  by_cases hl : (o && ltT r ahead) = true
  · have e : ansM ahead (r, o, er) = .tuple #[.string ⟨#[]⟩, .bool false, .int .i64 13] := if_pos hl
    rw [e]
    rw [Bool.and_eq_true] at hl
    obtain ⟨rfl, hlt⟩ := hl
    have ht : Op.bytesLess r.toList ahead.toList = true := hlt
    clear hlt e
    go_enter Tryz.func64, Tryz.ntmps64
    go_wp2_with fail
    rw [← HW.out]
    refine C.out.mono ?_; rintro e w2 hd
    obtain ⟨rfl, B2, h2, n2⟩ := hd
    have H2 := Lib.hid h2
    have N2 := Lib.hid ((Nx.gr (B := B) G.out).trans n2)
    clear h2 n2 C k
    go_wp2_with fail
    exact bodyPost_ret (v := .tuple #[.string ⟨#[]⟩, .bool false, .int .i64 13]) (by simp [results, Tryz.results64, go_sem, ansV]) rfl ⟨rfl, B2, H2.out, N2.out⟩
  · have e : ansM ahead (r, o, er) = ansV (r, o, er) := if_neg hl
    rw [e]
    unfold ansV
    clear e
    cases o
    · clear hl
      go_enter Tryz.func64, Tryz.ntmps64
      go_wp2_with fail
      rw [← HW.out]
      refine C.out.mono ?_; rintro e w2 hd
      obtain ⟨rfl, B2, h2, n2⟩ := hd
      have H2 := Lib.hid h2
      have N2 := Lib.hid ((Nx.gr (B := B) G.out).trans n2)
      clear h2 n2 C k
      go_wp2_with fail
      exact bodyPost_ret (v := .tuple #[.string r, .bool false, .int .i64 er]) (by simp [results, Tryz.results64, go_sem, ansV]) rfl ⟨rfl, B2, H2.out, N2.out⟩
    · have ht : Op.bytesLess r.toList ahead.toList = false := by
        have : ltT r ahead ≠ true := fun q => hl (by rw [q]; rfl)
        have h2 : ltT r ahead = false := by cases q : ltT r ahead; rfl; exact absurd q this
        exact h2
      clear hl
      go_enter Tryz.func64, Tryz.ntmps64
      go_wp2_with fail
      rw [← HW.out]
      refine C.out.mono ?_; rintro e w2 hd
      obtain ⟨rfl, B2, h2, n2⟩ := hd
      have H2 := Lib.hid h2
      have N2 := Lib.hid ((Nx.gr (B := B) G.out).trans n2)
      clear h2 n2 C k
      go_wp2_with fail
      exact bodyPost_ret (v := .tuple #[.string r, .bool true, .int .i64 er]) (by simp [results, Tryz.results64, go_sem, ansV]) rfl ⟨rfl, B2, H2.out, N2.out⟩
end Go.Proofs.YtpmglnghnelenaaGreat
/- Heads of sources, and which is the least; plain. -/
namespace Go.Proofs.YtpmglnghnelenaaGreat
open Go.RowKit
set_option linter.unusedVariables false
set_option linter.unusedSimpArgs false
set_option maxRecDepth 20000
namespace LoPlain
/-- A source's head, and whether it is over. -/
structure Hd where
  s : ByteArray
  o : Bool
def ltS (a b : ByteArray) : Bool := Op.bytesLess a.toList b.toList
def sAt (l : List Hd) (i : Nat) : ByteArray := ((l[i]?).map Hd.s).getD ⟨#[]⟩
def oAt (l : List Hd) (i : Nat) : Bool := ((l[i]?).map Hd.o).getD true
/-- The least of the first ones, -1 if there is none. -/
def bestN (l : List Hd) : Nat → Int
  | 0 => -1
  | j + 1 => if (!oAt l j && (decide (bestN l j < 0) || ltS (sAt l j) (sAt l (bestN l j).toNat))) = true then (j : Int) else bestN l j
def leastN (l : List Hd) : Int := bestN l l.length
def leastI (l : List Hd) : Int := max 0 (leastN l)
def leastB (l : List Hd) : Bool := decide (0 ≤ leastN l)
def headS (l : List Hd) : ByteArray := if leastB l = true then sAt l (leastN l).toNat else ⟨#[]⟩
def nextL (l : List Hd) (s : ByteArray) (o : Bool) : List Hd := if leastB l = true then l.set (leastN l).toNat ⟨s, o⟩ else l
def leftN (l : List Hd) : Nat := l.countP (fun x => !x.o)
def mkL : List ByteArray → List Bool → List Hd
  | [], _ => []
  | h :: r, [] => ⟨h, false⟩ :: mkL r []
  | h :: r, o :: os => ⟨h, o⟩ :: mkL r os
theorem bestN_range (l : List Hd) : ∀ j, -1 ≤ bestN l j ∧ bestN l j < (j : Int)
  | 0 => by simp [bestN]
  | j + 1 => by
    have h := bestN_range l j
    rw [bestN]
    split <;> omega
theorem leastN_range (l : List Hd) : -1 ≤ leastN l ∧ leastN l < (l.length : Int) := bestN_range l _
theorem oAt_none {l : List Hd} {i : Nat} (h : l.length ≤ i) : oAt l i = true := by
  unfold oAt; rw [List.getElem?_eq_none h]; rfl
theorem oAt_at {l : List Hd} {i : Nat} {x : Hd} (h : l[i]? = some x) : oAt l i = x.o := by unfold oAt; rw [h]; rfl
theorem sAt_at {l : List Hd} {i : Nat} {x : Hd} (h : l[i]? = some x) : sAt l i = x.s := by unfold sAt; rw [h]; rfl
theorem bestN_on (l : List Hd) : ∀ j, 0 ≤ bestN l j → oAt l (bestN l j).toNat = false
  | 0, h => by simp [bestN] at h
  | j + 1, h => by
    rw [bestN] at h ⊢
    split at h
    · rename_i hc
      rw [if_pos hc]
      simp only [Bool.and_eq_true, Bool.not_eq_true'] at hc
      exact hc.1
    · rename_i hc
      rw [if_neg hc]
      exact bestN_on l j h
theorem mkL_length : ∀ (h : List ByteArray) (o : List Bool), (mkL h o).length = h.length
  | [], _ => by simp [mkL]
  | h :: r, [] => by simp [mkL, mkL_length r []]
  | h :: r, o :: os => by simp [mkL, mkL_length r os]
theorem mkL_at : ∀ (h : List ByteArray) (o : List Bool) (i : Nat) (s : ByteArray), h[i]? = some s → (mkL h o)[i]? = some ⟨s, (o[i]?).getD false⟩
  | [], _, i, s, e => by simp at e
  | h :: r, [], 0, s, e => by simp at e; simp [mkL, e]
  | h :: r, [], i + 1, s, e => by
    have := mkL_at r [] i s (by simpa using e)
    simpa [mkL] using this
  | h :: r, o :: os, 0, s, e => by simp at e; simp [mkL, e]
  | h :: r, o :: os, i + 1, s, e => by
    have := mkL_at r os i s (by simpa using e)
    simpa [mkL] using this
theorem nextL_length (l : List Hd) (s : ByteArray) (o : Bool) : (nextL l s o).length = l.length := by unfold nextL; split <;> simp
theorem leftN_snoc (l : List Hd) (x : Hd) : leftN (l ++ [x]) = leftN l + (if x.o = true then 0 else 1) := by
  unfold leftN
  rw [List.countP_append]
  cases x with | mk s o => cases o <;> simp
theorem leftN_le (l : List Hd) : leftN l ≤ l.length := List.countP_le_length
end LoPlain
end Go.Proofs.YtpmglnghnelenaaGreat
/- What the least is: no other head is less; rising lists merged, by counts; plain. -/
namespace Go.Proofs.YtpmglnghnelenaaGreat
open Go.RowKit
set_option linter.unusedVariables false
set_option linter.unusedSimpArgs false
set_option maxRecDepth 20000
namespace LoPlain
theorem bl_irrefl : ∀ a : List UInt8, Op.bytesLess a a = false
  | [] => rfl
  | x :: r => by
    have h := bl_irrefl r
    simp [Op.bytesLess, h]
theorem bl_trans : ∀ {a b c : List UInt8}, Op.bytesLess a b = true → Op.bytesLess b c = true → Op.bytesLess a c = true
  | _, _, [], _, h => by cases ‹List UInt8› <;> simp [Op.bytesLess] at h
  | _, [], _ :: _, h, _ => by cases ‹List UInt8› <;> simp [Op.bytesLess] at h
  | [], _ :: _, _ :: _, _, _ => rfl
  | x :: a, y :: b, z :: c, h, k => by
    simp only [Op.bytesLess, Bool.or_eq_true, Bool.and_eq_true, decide_eq_true_eq, beq_iff_eq] at h k ⊢
    rcases h with h | ⟨rfl, h⟩
    · rcases k with k | ⟨rfl, k⟩
      · exact .inl (UInt8.lt_trans h k)
      · exact .inl h
    · rcases k with k | ⟨rfl, k⟩
      · exact .inl k
      · exact .inr ⟨rfl, bl_trans h k⟩
theorem lt_irrefl15 (a : ByteArray) : ltS a a = false := bl_irrefl _
theorem lt_trans15 {a b c : ByteArray} (h : ltS a b = true) (k : ltS b c = true) : ltS a c = true := bl_trans h k
theorem best_some (l : List Hd) : ∀ j i, i < j → oAt l i = false → 0 ≤ bestN l j
  | j + 1, i, hi, ho => by
    rw [bestN]
    split
    · omega
    · rename_i hc
      rcases Nat.lt_or_ge i j with h | h
      · exact best_some l j i h ho
      · obtain rfl : i = j := by omega
        have hr := bestN_range l i
        by_cases hb : bestN l i < 0
        · exact absurd (by rw [ho, decide_eq_true hb]; rfl) hc
        · omega
theorem best_min (l : List Hd) : ∀ j, 0 ≤ bestN l j → ∀ i, i < j → oAt l i = false → ltS (sAt l i) (sAt l (bestN l j).toNat) = false
  | 0, _, i, hi, _ => by omega
  | j + 1, h, i, hi, ho => by
    rw [bestN] at h ⊢
    split at h
    · rename_i hc
      rw [if_pos hc, Int.toNat_natCast]
      simp only [Bool.and_eq_true, Bool.or_eq_true, Bool.not_eq_true', decide_eq_true_eq] at hc
      rcases Nat.lt_or_ge i j with hij | hij
      · rcases hc.2 with hb | hb
        · have := best_some l j i hij ho; omega
        · have hr := bestN_range l j
          by_cases h0 : 0 ≤ bestN l j
          · have h1 := best_min l j h0 i hij ho
            cases h2 : ltS (sAt l i) (sAt l j)
            · rfl
            · rw [lt_trans15 h2 hb] at h1; cases h1
          · have := best_some l j i hij ho; omega
      · obtain rfl : i = j := by omega
        exact lt_irrefl15 _
    · rename_i hc
      rw [if_neg hc]
      rcases Nat.lt_or_ge i j with hij | hij
      · exact best_min l j h i hij ho
      · obtain rfl : i = j := by omega
        simp only [Bool.and_eq_true, Bool.or_eq_true, Bool.not_eq_true', decide_eq_true_eq, not_and, not_or] at hc
        have := (hc ho).2
        simpa using this
theorem least_some {l : List Hd} {i : Nat} (hi : i < l.length) (ho : oAt l i = false) : leastB l = true := by
  unfold leastB leastN
  rw [decide_eq_true_iff]
  exact best_some l _ i hi ho
theorem least_min {l : List Hd} (h : leastB l = true) {i : Nat} (hi : i < l.length) (ho : oAt l i = false) : ltS (sAt l i) (sAt l (leastN l).toNat) = false := by
  unfold leastB leastN at h
  rw [decide_eq_true_iff] at h
  exact best_min l _ h i hi ho
theorem least_on {l : List Hd} (h : leastB l = true) : oAt l (leastN l).toNat = false := by
  unfold leastB leastN at h
  rw [decide_eq_true_iff] at h
  exact bestN_on l _ h
/-- A number as two bytes. -/
def textS (n : Nat) : ByteArray := bs [UInt8.ofNat (n / 256), UInt8.ofNat (n % 256)]
theorem bs_list15 (f : List UInt8) : (bs f).toList = f := by
  rw [Lib.toList_data]; rfl
theorem text_less {m n : Nat} (hm : m < 65536) (hn : n < 65536) : ltS (textS m) (textS n) = decide (m < n) := by
  unfold ltS textS
  rw [bs_list15, bs_list15]
  have k : ∀ a b : Nat, a < 256 → b < 256 → ((UInt8.ofNat a < UInt8.ofNat b) ↔ a < b) ∧ ((UInt8.ofNat a = UInt8.ofNat b) ↔ a = b) := by
    intro a b ha hb
    have h1 : (UInt8.ofNat a).toNat = a := by simp; omega
    have h2 : (UInt8.ofNat b).toNat = b := by simp; omega
    refine ⟨by rw [UInt8.lt_iff_toNat_lt, h1, h2], ⟨fun h => by rw [← h1, ← h2, h], fun h => by rw [h]⟩⟩
  obtain ⟨l1, e1⟩ := k (m / 256) (n / 256) (by omega) (by omega)
  obtain ⟨l2, e2⟩ := k (m % 256) (n % 256) (by omega) (by omega)
  apply Bool.eq_iff_iff.2
  simp only [Op.bytesLess, Bool.or_eq_true, Bool.and_eq_true, decide_eq_true_eq, beq_iff_eq, Bool.and_false, Bool.or_false, l1, e1, l2, e2]
  omega
/-- Sums from the front on. -/
def vals (x : List Nat) : List Nat := (List.range x.length).map fun k => (x.take (k + 1)).sum
theorem vals_length (x : List Nat) : (vals x).length = x.length := by simp [vals]
theorem vals_at {x : List Nat} {k : Nat} (h : k < x.length) : (vals x)[k]? = some (x.take (k + 1)).sum := by simp [vals, h]
theorem sum_snoc (x : List Nat) {k b : Nat} (h : x[k]? = some b) : (x.take (k + 1)).sum = (x.take k).sum + b := by
  rw [List.take_add_one, h]; simp
theorem sum_le (x : List Nat) (k : Nat) (h : ∀ b ∈ x, b ≤ 255) : (x.take k).sum ≤ 255 * k := by
  induction k with
  | zero => simp
  | succ k ih =>
    rcases Nat.lt_or_ge k x.length with hk | hk
    · have e : x[k]? = some x[k] := List.getElem?_eq_getElem hk
      rw [sum_snoc x e]
      have := h _ (List.getElem_mem hk)
      omega
    · rw [List.take_of_length_le (by omega)]
      rw [List.take_of_length_le (by omega)] at ih
      omega
theorem vals_le {x : List Nat} (h : ∀ b ∈ x, b ≤ 255) (hl : x.length ≤ 12) : ∀ v ∈ vals x, v ≤ 3060 := by
  intro v hv
  simp only [vals, List.mem_map, List.mem_range] at hv
  obtain ⟨k, hk, rfl⟩ := hv
  have := sum_le x (k + 1) h
  omega
theorem vals_rise {x : List Nat} {j k : Nat} (hjk : j ≤ k) (hk : k < x.length) : (x.take (j + 1)).sum ≤ (x.take (k + 1)).sum := by
  induction k with
  | zero => have : j = 0 := by omega
            subst this; exact Nat.le_refl _
  | succ k ih =>
    rcases Nat.lt_or_ge j (k + 1) with h | h
    · have e : x[k + 1]? = some x[k + 1] := List.getElem?_eq_getElem hk
      have := sum_snoc x e
      have := ih (by omega) (by omega)
      omega
    · have : j = k + 1 := by omega
      subst this; exact Nat.le_refl _
theorem vals_snoc {x : List Nat} {k : Nat} (h : k < x.length) : (vals x).take (k + 1) = (vals x).take k ++ [(x.take (k + 1)).sum] := by
  rw [List.take_add_one, vals_at h]; rfl
theorem vals_drop {x : List Nat} {a : Nat} (h : a < x.length) : (vals x).drop a = (x.take (a + 1)).sum :: (vals x).drop (a + 1) := by
  have h1 : a < (vals x).length := by rw [vals_length]; exact h
  rw [List.drop_eq_getElem_cons h1]
  congr 1
  have := vals_at h
  rw [List.getElem?_eq_getElem h1] at this
  exact Option.some.inj this
theorem drop_ge {x : List Nat} {a : Nat} (h : a < x.length) : ∀ v ∈ (vals x).drop a, (x.take (a + 1)).sum ≤ v := by
  intro v hv
  obtain ⟨i, hi, rfl⟩ := List.mem_iff_getElem.1 hv
  rw [List.getElem_drop]
  have hlen : a + i < x.length := by rw [List.length_drop, vals_length] at hi; omega
  have := vals_at hlen
  rw [List.getElem?_eq_getElem (by rw [vals_length]; exact hlen)] at this
  rw [Option.some.inj this]
  exact vals_rise (by omega) hlen
/-- How often each number is there. -/
def cntL (m : List Nat) : List Int := (List.range 4096).map fun v => ((m.count v : Nat) : Int)
theorem cnt_length (m : List Nat) : (cntL m).length = 4096 := by simp [cntL]
theorem cnt_at (m : List Nat) {v : Nat} (h : v < 4096) : (cntL m)[v]? = some ((m.count v : Nat) : Int) := by simp [cntL, h]
theorem cnt_perm {m m' : List Nat} (h : m.Perm m') : cntL m = cntL m' := by
  unfold cntL
  congr 1
  funext v
  rw [h.count_eq]
theorem cnt_cons (m : List Nat) {v : Nat} (h : v < 4096) : (cntL m).set v (((m.count v : Nat) : Int) + 1) = cntL (v :: m) := by
  apply List.ext_getElem?
  intro i
  rw [List.getElem?_set, cnt_length]
  by_cases hiv : v = i
  · subst hiv
    rw [if_pos rfl, if_pos h, cnt_at _ h, List.count_cons_self]
    rfl
  · rw [if_neg hiv]
    by_cases hi : i < 4096
    · rw [cnt_at _ hi, cnt_at _ hi, List.count_cons_of_ne hiv]
    · rw [List.getElem?_eq_none (by rw [cnt_length]; omega), List.getElem?_eq_none (by rw [cnt_length]; omega)]
theorem cnt_pop (m : List Nat) {v : Nat} (h : v < 4096) : (cntL (v :: m)).set v ((((v :: m).count v : Nat) : Int) - 1) = cntL m := by
  apply List.ext_getElem?
  intro i
  rw [List.getElem?_set, cnt_length]
  by_cases hiv : v = i
  · subst hiv
    rw [if_pos rfl, if_pos h, cnt_at _ h, List.count_cons_self]
    congr 1
    omega
  · rw [if_neg hiv]
    by_cases hi : i < 4096
    · rw [cnt_at _ hi, cnt_at _ hi, List.count_cons_of_ne hiv]
    · rw [List.getElem?_eq_none (by rw [cnt_length]; omega), List.getElem?_eq_none (by rw [cnt_length]; omega)]
/-- What is left of each list. -/
def restL (X : List (List Nat)) (A : List Nat) : List (List Nat) := List.zipWith (fun x a => (vals x).drop a) X A
theorem rest_at {X : List (List Nat)} {A : List Nat} {i : Nat} {x : List Nat} {a : Nat} (h : X[i]? = some x) (k : A[i]? = some a) : (restL X A)[i]? = some ((vals x).drop a) := by
  unfold restL
  rw [List.getElem?_zipWith, h, k]
theorem flat_pop : ∀ {R : List (List Nat)} {i v : Nat} {t : List Nat}, R[i]? = some (v :: t) → R.flatten.Perm (v :: (R.set i t).flatten)
  | r :: R, 0, v, t, h => by
    simp at h
    subst h
    simp
  | r :: R, i + 1, v, t, h => by
    have ih := flat_pop (R := R) (i := i) (v := v) (t := t) (by simpa using h)
    simp only [List.flatten_cons, List.set_cons_succ]
    exact (List.Perm.append_left r ih).trans List.perm_middle
theorem rest_set : ∀ {X : List (List Nat)} {A : List Nat} {i : Nat} {x : List Nat} {a : Nat}, X[i]? = some x → restL X (A.set i a) = (restL X A).set i ((vals x).drop a)
  | [], _, i, x, a, h => by simp at h
  | x' :: X, [], i, x, a, h => by simp [restL]
  | x' :: X, a' :: A, 0, x, a, h => by
    simp at h; subst h; rfl
  | x' :: X, a' :: A, i + 1, x, a, h => by
    have ih := rest_set (X := X) (A := A) (i := i) (x := x) (a := a) (by simpa using h)
    simp only [List.set_cons_succ]
    show (vals x').drop a' :: restL X (A.set i a) = (vals x').drop a' :: (restL X A).set i ((vals x).drop a)
    rw [ih]
theorem rest_zero (X : List (List Nat)) : restL X (List.replicate X.length 0) = X.map vals := by
  induction X with
  | nil => rfl
  | cons x X ih =>
    simp only [List.length_cons, List.replicate_succ]
    show (vals x).drop 0 :: restL X (List.replicate X.length 0) = _
    rw [ih]; rfl
theorem flat_mem {R : List (List Nat)} {v : Nat} (h : v ∈ R.flatten) : ∃ (i : Nat) (r : List Nat), R[i]? = some r ∧ v ∈ r := by
  obtain ⟨r, hr, hv⟩ := List.mem_flatten.1 h
  obtain ⟨i, hi, rfl⟩ := List.mem_iff_getElem.1 hr
  exact ⟨i, _, List.getElem?_eq_getElem hi, hv⟩
end LoPlain
end Go.Proofs.YtpmglnghnelenaaGreat
