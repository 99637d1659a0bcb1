/- In one text: RnDef2, MgRds, MgLeave, MgState. -/
import Derived.Test.YtjplkmmhjfpdaaaGreatDoorQ23
import Derived.Test.YtjplkmmhjfpdaaaGreatDoorQ12
import Derived.Test.YtjplkmmhjfpdaaaGreatDoorQ13
/- Calls that are put off, beside whatever else there is. -/
namespace Go.Proofs.YtjplkmmhjfpdaaaGreatDoor
open Go.RowKit FsPlain CrcPlain OctPlain FramePlain RecPlain RdPlain WrPlain
set_option linter.unusedVariables false
set_option linter.unusedSimpArgs false
set_option maxRecDepth 20000
theorem does_pre_d {Pr : Program} {f : FuncId} {args : Array Value} {v : Value} {u : FrameMode} {w : World} {B : Nat → Prop} (L : List Asn) {L' M : List Asn} (hM : Frs M) (h : stars (L ++ M) w B) (k : ∀ B1, stars L w B1 → CallsD Pr f args u w fun e u' w' => u' = u ∧ Does w B1 (stars L') v e w') : CallsD Pr f args u w fun e u' w' => u' = u ∧ Does w B (stars (L' ++ M)) v e w' := by
  obtain ⟨B1, h1, nx⟩ := pre_nx L hM h
  refine (k B1 h1).mono ?_
  rintro e u' w' ⟨hu, he, B', h', n⟩
  obtain ⟨B3, k3, n3⟩ := nx L' w' B' h' n
  exact ⟨hu, he, B3, k3, n3⟩
theorem wr_drop_d {x D P : Nat} {m : M3} (u : FrameMode) {w : World} {B : Nat → Prop} {M : List Asn} (hM : Frs M) (h : stars ([WrA x D P m.x, DiskA D m.s, BuA P m.b] ++ M) w B) :
    CallsD Tryz.prog 116 #[.pointer (some ⟨x, 0, none⟩)] u w fun e u' w' => u' = u ∧ Does w B (stars ([WrA x D P (dropM m).x, DiskA D (dropM m).s, BuA P (dropM m).b] ++ M)) (.tuple #[]) e w' :=
  does_pre_d (L' := [WrA x D P (dropM m).x, DiskA D (dropM m).s, BuA P (dropM m).b]) [WrA x D P m.x, DiskA D m.s, BuA P m.b] hM h fun B1 h1 => w_drop_d u x D P m w B1 h1
theorem rd_close_d {x D P : Nat} {m : N3} (u : FrameMode) (hi : m.inv) {w : World} {B : Nat → Prop} {M : List Asn} (hM : Frs M) (h : stars ([RdP x D P m.x, DiskA D m.s, BuA P m.b] ++ M) w B) :
    CallsD Tryz.prog 94 #[.pointer (some ⟨x, 0, none⟩)] u w fun e u' w' => u' = u ∧ Does w B (stars ([RdP x D P (closeN m).x, DiskA D (closeN m).s, BuA P (closeN m).b] ++ M)) (.tuple #[]) e w' :=
  does_pre_d (L' := [RdP x D P (closeN m).x, DiskA D (closeN m).s, BuA P (closeN m).b]) [RdP x D P m.x, DiskA D m.s, BuA P m.b] hM h fun B1 h1 => (rp_close_d u x D P m hi w B1 (rd_join h1)).mono fun e u' w' ⟨hu, he, B', h', n⟩ => ⟨hu, he, B', rd_split h', n⟩
theorem bu_give_d {P : Nat} {b : Bu} (n : Int) (u : FrameMode) {w : World} {B : Nat → Prop} {M : List Asn} (hM : Frs M) (h : stars ([BuA P b] ++ M) w B) :
    CallsD Tryz.prog 92 #[.pointer (some ⟨P, 0, none⟩), .int .i64 n] u w fun e u' w' => u' = u ∧ Does w B (stars ([BuA P (b.give n)] ++ M)) (.tuple #[]) e w' := by
  refine does_pre_d (L' := [BuA P (b.give n)]) [BuA P b] hM h fun B1 h1 => ?_
  obtain ⟨Ba, Bb, hb, hnil, a, e⟩ := h1
  have hBa : BuA P b w B1 := by
    have : Ba = B1 := by funext x; rw [eq_iff_iff, e x]; exact ⟨.inl, fun k => k.resolve_right (hnil x)⟩
    rw [← this]; exact hb
  refine (bgive_d u P b n w hBa.at).mono ?_
  rintro e u' w' ⟨hu, he, k, g⟩
  obtain ⟨B', h', n'⟩ := bu_next hBa k g
  exact ⟨hu, he, B', stars_one h', n'⟩
end Go.Proofs.YtjplkmmhjfpdaaaGreatDoor
/- Several readers over one disk and one budget, as parts in a list. -/
namespace Go.Proofs.YtjplkmmhjfpdaaaGreatDoor
open Go.RowKit FsPlain CrcPlain OctPlain FramePlain RecPlain RdPlain WrPlain
set_option linter.unusedVariables false
set_option linter.unusedSimpArgs false
set_option maxRecDepth 20000
def rdsA (D P : Nat) (rs : List (Nat × Rs)) : List Asn := rs.map fun r => RdP r.1 D P r.2
theorem frs_rds (D P : Nat) : ∀ rs : List (Nat × Rs), Frs (rdsA D P rs)
  | [] => trivial
  | r :: rs => ⟨fr_rdp _ _ _ _, frs_rds D P rs⟩
theorem perm_idx {α : Type} : ∀ {l : List α} {i : Nat} {a : α}, l[i]? = some a → l.Perm (a :: l.eraseIdx i)
  | [], i, a, h => by simp at h
  | x :: l, 0, a, h => by
    simp only [List.getElem?_cons_zero, Option.some.injEq] at h
    subst h
    exact List.Perm.refl _
  | x :: l, i + 1, a, h => by
    simp only [List.getElem?_cons_succ] at h
    exact ((perm_idx h).cons x).trans (List.Perm.swap a x _)
theorem rds_out {D P : Nat} {rs : List (Nat × Rs)} {i x : Nat} {y : Rs} (h : rs[i]? = some (x, y)) (d b : Asn) (M : List Asn) : (rdsA D P rs ++ ([d, b] ++ M)).Perm ([RdP x D P y, d, b] ++ (rdsA D P (rs.eraseIdx i) ++ M)) := by
  have h1 : (rdsA D P rs).Perm (RdP x D P y :: rdsA D P (rs.eraseIdx i)) := (perm_idx h).map fun r : Nat × Rs => RdP r.1 D P r.2
  refine (h1.append_right _).trans ?_
  show (RdP x D P y :: (rdsA D P (rs.eraseIdx i) ++ ([d, b] ++ M))).Perm (RdP x D P y :: ([d, b] ++ (rdsA D P (rs.eraseIdx i) ++ M)))
  refine List.Perm.cons _ ?_
  rw [← List.append_assoc, ← List.append_assoc]
  exact List.perm_append_comm.append_right M
theorem rds_in {D P : Nat} {rs : List (Nat × Rs)} {i x : Nat} {y y' : Rs} (h : rs[i]? = some (x, y)) (d b : Asn) (M : List Asn) : ([RdP x D P y', d, b] ++ (rdsA D P (rs.eraseIdx i) ++ M)).Perm (rdsA D P (rs.set i (x, y')) ++ ([d, b] ++ M)) := by
  have hi := (List.getElem?_eq_some_iff.1 h).1
  have h2 := rds_out (D := D) (P := P) (rs := rs.set i (x, y')) (i := i) (x := x) (y := y') (List.getElem?_set_self hi) d b M
  rw [List.eraseIdx_set_eq] at h2
  exact h2.symm
theorem frs_rest {D P : Nat} (rs : List (Nat × Rs)) {M : List Asn} (hM : Frs M) : Frs (rdsA D P rs ++ M) := frs_app (frs_rds D P rs) hM
theorem rds_next {D P : Nat} {rs : List (Nat × Rs)} {s : St} {b : Bu} {i x : Nat} {y : Rs} (hi : rs[i]? = some (x, y)) (hok : N3.ok ⟨s, b, y⟩) (hv : N3.inv ⟨s, b, y⟩) (ht : y.told ≤ 50000) (hc : s.calls ≤ 1000000000000) {w : World} {B : Nat → Prop} {M : List Asn} (hM : Frs M) (h : stars (rdsA D P rs ++ ([DiskA D s, BuA P b] ++ M)) w B) :
    Calls Tryz.prog 114 #[.pointer (some ⟨x, 0, none⟩)] w (Does w B (stars (rdsA D P (rs.set i (x, (nextN ⟨s, b, y⟩).1.x)) ++ ([DiskA D (nextN ⟨s, b, y⟩).1.s, BuA P (nextN ⟨s, b, y⟩).1.b] ++ M))) (ansV (nextN ⟨s, b, y⟩).2)) :=
  (rd_next (m := ⟨s, b, y⟩) hok hv ht hc (frs_rest _ hM) (stars_perm (rds_out hi _ _ _) h)).mono fun e w' hd => hd.imp fun B' q => stars_perm (rds_in hi _ _ _) q
theorem rds_close_d {D P : Nat} {rs : List (Nat × Rs)} {s : St} {b : Bu} {i x : Nat} {y : Rs} (u : FrameMode) (hi : rs[i]? = some (x, y)) (hv : N3.inv ⟨s, b, y⟩) {w : World} {B : Nat → Prop} {M : List Asn} (hM : Frs M) (h : stars (rdsA D P rs ++ ([DiskA D s, BuA P b] ++ M)) w B) :
    CallsD Tryz.prog 94 #[.pointer (some ⟨x, 0, none⟩)] u w fun e u' w' => u' = u ∧ Does w B (stars (rdsA D P (rs.set i (x, (closeN ⟨s, b, y⟩).x)) ++ ([DiskA D (closeN ⟨s, b, y⟩).s, BuA P (closeN ⟨s, b, y⟩).b] ++ M))) (.tuple #[]) e w' :=
  (rd_close_d (m := ⟨s, b, y⟩) u hv (frs_rest _ hM) (stars_perm (rds_out hi _ _ _) h)).mono fun e u' w' hd => ⟨hd.1, hd.2.imp fun B' q => stars_perm (rds_in hi _ _ _) q⟩
theorem rds_snoc (D P : Nat) (rs : List (Nat × Rs)) (x : Nat) (y : Rs) (d b : Asn) (M : List Asn) : ([RdP x D P y, d, b] ++ (rdsA D P rs ++ M)).Perm (rdsA D P (rs ++ [(x, y)]) ++ ([d, b] ++ M)) := by
  have e : rdsA D P (rs ++ [(x, y)]) = rdsA D P rs ++ [RdP x D P y] := by unfold rdsA; rw [List.map_append]; rfl
  rw [e, List.append_assoc]
  show ([RdP x D P y, d, b] ++ (rdsA D P rs ++ M)).Perm (rdsA D P rs ++ ([RdP x D P y, d, b] ++ M))
  rw [← List.append_assoc, ← List.append_assoc]
  exact List.perm_append_comm.append_right M
theorem rds_head (D P : Nat) (rs : List (Nat × Rs)) (d b : Asn) (M : List Asn) : (rdsA D P rs ++ ([d, b] ++ M)).Perm ([d, b] ++ (rdsA D P rs ++ M)) := by
  rw [← List.append_assoc, ← List.append_assoc]
  exact List.perm_append_comm.append_right M
def RdsMade (D P : Nat) (w : World) (B : Nat → Prop) (rs : List (Nat × Rs)) (M : List Asn) (nm : ByteArray) (size : Int) (R : St × Bu × Int × Nat) (e : Ending) (w' : World) : Prop :=
  (R.2.2.1 = 0 ∧ ∃ x, Does w B (stars (rdsA D P (rs ++ [(x, newRs nm size R.2.2.2)]) ++ ([DiskA D R.1, BuA P R.2.1] ++ M))) (.tuple #[.pointer (some ⟨x, 0, none⟩), .int .i64 0]) e w') ∨
  (R.2.2.1 ≠ 0 ∧ Does w B (stars (rdsA D P rs ++ ([DiskA D R.1, BuA P R.2.1] ++ M))) (.tuple #[.pointer none, .int .i64 R.2.2.1]) e w')
theorem rds_open {D P : Nat} {rs : List (Nat × Rs)} {s : St} {b : Bu} {nm : ByteArray} {size : Int} (hsz : I64 size) (hs : s.ok) (hn : nm.size ≤ 24) (hm : rightB nm.data.toList = true) (hc : s.calls ≤ 100000000000) {w : World} {B : Nat → Prop} {M : List Asn} (hM : Frs M) (h : stars (rdsA D P rs ++ ([DiskA D s, BuA P b] ++ M)) w B) :
    Calls Tryz.prog 93 #[.pointer (some ⟨D, 0, none⟩), .pointer (some ⟨P, 0, none⟩), .string nm, .int .i64 size] w (RdsMade D P w B rs M nm size (openN s b nm size)) := by
  refine (rd_open hsz hs hn hm hc (frs_rest rs hM) (stars_perm (rds_head D P rs _ _ M) h)).mono ?_
  rintro e w' (⟨h0, x, hd⟩ | ⟨h0, hd⟩)
  · exact .inl ⟨h0, x, hd.imp fun B' q => stars_perm (rds_snoc D P rs _ _ _ _ M) q⟩
  · exact .inr ⟨h0, hd.imp fun B' q => stars_perm (rds_head D P rs _ _ M).symm q⟩
end Go.Proofs.YtjplkmmhjfpdaaaGreatDoor
/- Readers closed by calls that are put off, one for each, the last one first; their budget. -/
namespace Go.Proofs.YtjplkmmhjfpdaaaGreatDoor
open Go.RowKit FsPlain CrcPlain OctPlain FramePlain RecPlain RdPlain WrPlain
set_option linter.unusedVariables false
set_option linter.unusedSimpArgs false
set_option maxRecDepth 20000
def closeD (x : Nat) : Deferred := { target := .fn (.func 94) #[], args := #[.pointer (some ⟨x, 0, none⟩)] }
theorem closeN_parts (s : St) (b : Bu) (y : Rs) : (closeN ⟨s, b, y⟩).s = s ∧ (closeN ⟨s, b, y⟩).b = (if y.opn = true then b.give 4 else b) ∧ (closeN ⟨s, b, y⟩).x.opn = false := by
  cases ho : y.opn
  · have e : closeN ⟨s, b, y⟩ = ⟨s, b, y⟩ := by unfold closeN; rw [if_neg (by rw [ho]; decide)]
    rw [e]
    exact ⟨rfl, by simp, ho⟩
  · have e : closeN ⟨s, b, y⟩ = ⟨s, b.give 4, { y with bad := true, opn := false }⟩ := by unfold closeN wrongN shutN; rw [if_pos ho, if_pos (show (N3.isBad ⟨s, b, y⟩).x.opn = true from ho)]; rfl
    rw [e]
    exact ⟨rfl, by simp, rfl⟩
structure Left (b b' : Bu) (n : Nat) : Prop where
  now : b'.now = b.now - 4 * (n : Int)
  m : b'.m = b.m
  ok : b'.ok
theorem left_zero {b : Bu} (h : b.ok) : Left b b 0 := ⟨by simp, rfl, h⟩
theorem Left.step {b b' : Bu} {n : Nat} (h : Left b b' n) (hn : 4 * ((n : Int) + 1) ≤ b.now) : Left b (b'.give 4) (n + 1) := by
  have h1 := h.now
  refine ⟨?_, ?_, Bu.give_ok h.ok 4⟩
  · unfold Bu.give; rw [if_neg (by omega)]; simp only []; omega
  · unfold Bu.give; rw [if_neg (by omega)]; exact h.m
theorem leaves_rds {fn : Func} {tmps : Array Value} {R : Ending → World → Prop} {ds : List Deferred} {D P : Nat} {s : St} {b0 : Bu} {M : List Asn} {w0 : World} {B0 : Nat → Prop} (hM : Frs M) :
    ∀ (k : Nat) (rs : List (Nat × Rs)) (b : Bu) (n : Nat) (w : World) (B : Nat → Prop), k ≤ rs.length → (∀ r ∈ rs, N3.inv ⟨s, b, r.2⟩) → Left b0 b n → 4 * ((n : Int) + (opnN ((rs.take k).map (·.2)) : Nat)) ≤ b0.now → stars (rdsA D P rs ++ ([DiskA D s, BuA P b] ++ M)) w B → Nx B0 w0 B w →
      (∀ (rs' : List (Nat × Rs)) (b' : Bu) (w' : World) (B' : Nat → Prop), Left b0 b' (n + opnN ((rs.take k).map (·.2))) → stars (rdsA D P rs' ++ ([DiskA D s, BuA P b'] ++ M)) w' B' → Nx B0 w0 B' w' → Leaves Tryz.prog fn tmps R ds .returning w') →
      Leaves Tryz.prog fn tmps R ((((rs.take k).map fun r => closeD r.1).reverse) ++ ds) .returning w
  | 0, rs, b, n, w, B, hk, hi, hL, hn, hst, nx, cont => by
    have := cont rs b w B (by simpa [opnN] using hL) hst nx
    simpa using this
  | k + 1, rs, b, n, w, B, hk, hi, hL, hn, hst, nx, cont => by
    obtain ⟨r, hr⟩ : ∃ r, rs[k]? = some r := ⟨rs[k]'(by omega), List.getElem?_eq_getElem _⟩
    obtain ⟨x, y⟩ := r
    have hstep : rs.take (k + 1) = rs.take k ++ [(x, y)] := by rw [List.take_add_one, hr]; rfl
    have hop : opnN ((rs.take (k + 1)).map (·.2)) = opnN ((rs.take k).map (·.2)) + (if y.opn = true then 1 else 0) := by
      rw [hstep, List.map_append]
      unfold opnN
      rw [List.filter_append, List.length_append]
      cases hy : y.opn <;> simp [hy]
    rw [hstep, List.map_append, List.map_cons, List.map_nil, List.reverse_append, List.reverse_cons, List.reverse_nil, List.nil_append, List.cons_append, List.nil_append]
    obtain ⟨e1, e2, e3⟩ := closeN_parts s b y
    have hC := rds_close_d .returning hr (hi _ (List.mem_of_getElem? hr)) hM hst
    rw [e1, e2] at hC
    show Leaves Tryz.prog fn tmps R ({ target := .fn (.func 94) #[], args := #[.pointer (some ⟨x, 0, none⟩)] } :: (((rs.take k).map fun r => closeD r.1).reverse ++ ds)) .returning w
    refine leaves_cons (f := 94) (args := #[.pointer (some ⟨x, 0, none⟩)]) (by simp) (by simp [go_sem]) ?_
    refine hC.mono ?_
    rintro e u' w' ⟨rfl, rfl, B', h', n'⟩
    have ht : ((rs.set k (x, (closeN ⟨s, b, y⟩).x)).take k) = rs.take k := by rw [List.take_set_of_le (Nat.le_refl k)]
    have key := leaves_rds hM (fn := fn) (tmps := tmps) (R := R) (ds := ds) (D := D) (P := P) (s := s) (b0 := b0) (w0 := w0) (B0 := B0) k (rs.set k (x, (closeN ⟨s, b, y⟩).x)) (if y.opn = true then b.give 4 else b) (n + if y.opn = true then 1 else 0) w' B' (by rw [List.length_set]; omega) (fun r hr2 => by
      rcases List.mem_or_eq_of_mem_set hr2 with h | h
      · exact inv_other (hi r h)
      · rw [h]; exact inv_other (inv_closeN (hi _ (List.mem_of_getElem? hr)))) (by
      cases ho : y.opn
      · simpa using hL
      · rw [ho] at hop
        simp only [if_true] at hop ⊢
        exact hL.step (by omega)) (by rw [ht]; rw [hop] at hn; omega) h' (nx.trans n') (fun rs' b' w2 B2 h1 h2 h3 => by
        rw [ht] at h1
        refine cont rs' b' w2 B2 ?_ h2 h3
        rw [hop]
        rw [show n + (opnN ((rs.take k).map (·.2)) + if y.opn = true then 1 else 0) = n + (if y.opn = true then 1 else 0) + opnN ((rs.take k).map (·.2)) by omega]
        exact h1)
    rw [ht] at key
    exact key
end Go.Proofs.YtjplkmmhjfpdaaaGreatDoor
/- Plain facts: a merge on its way: a file that is written, several that are read; what each way out leaves. -/
namespace Go.Proofs.YtjplkmmhjfpdaaaGreatDoor
open Go.RowKit FsPlain CrcPlain OctPlain FramePlain RecPlain RdPlain RnPlain LoPlain WrPlain
set_option linter.unusedVariables false
set_option linter.unusedSimpArgs false
set_option maxRecDepth 20000
theorem flat_le : ∀ {A B : List (List ByteArray)}, A.length ≤ B.length → (∀ (i : Nat) (a b : List ByteArray), A[i]? = some a → B[i]? = some b → a.length ≤ b.length) → A.flatten.length ≤ B.flatten.length
  | [], B, _, _ => Nat.zero_le _
  | a :: A, [], h, _ => by simp at h
  | a :: A, b :: B, h, k => by
    have h1 := k 0 a b rfl rfl
    have h2 := flat_le (A := A) (B := B) (by simpa using h) fun i x y hx hy => k (i + 1) x y (by simpa using hx) (by simpa using hy)
    rw [List.flatten_cons, List.flatten_cons, List.length_append, List.length_append]
    omega
def callsG (G : List (List ByteArray × Bool)) : Nat := (G.map fun g => g.1.length + (if g.2 = true then 1 else 0)).sum
theorem callsG_snoc (G : List (List ByteArray × Bool)) : callsG (G ++ [([], false)]) = callsG G := by unfold callsG; simp
theorem callsG_set : ∀ {G : List (List ByteArray × Bool)} {i : Nat} {g : List ByteArray} {o : Bool} {g' : List ByteArray × Bool}, G[i]? = some (g, o) → callsG (G.set i g') + (g.length + if o = true then 1 else 0) = callsG G + (g'.1.length + if g'.2 = true then 1 else 0)
  | [], i, g, o, g', h => by simp at h
  | a :: G, 0, g, o, g', h => by
    simp only [List.getElem?_cons_zero, Option.some.injEq] at h
    subst h
    unfold callsG
    simp only [List.set_cons_zero, List.map_cons, List.sum_cons]
    omega
  | a :: G, i + 1, g, o, g', h => by
    simp only [List.getElem?_cons_succ] at h
    have ih := callsG_set (g' := g') h
    unfold callsG at ih ⊢
    simp only [List.set_cons_succ, List.map_cons, List.sum_cons]
    omega
def FilesOk (s0 : St) (F : List (ByteArray × ByteArray)) (out : ByteArray) : Prop := ∀ p ∈ F, HasD s0 p.1.data.toList p.2 ∧ p.2.size ≤ 5000 ∧ rightB p.1.data.toList = true ∧ p.1.size ≤ 24 ∧ p.1 ≠ out
theorem FilesOk.at {s0 s : St} {F : List (ByteArray × ByteArray)} {out : ByteArray} {d : Nat} (h : FilesOk s0 F out) (o : Oth out.data.toList d s0 s) : ∀ p ∈ F, HasD s p.1.data.toList p.2 := fun p hp => by
  obtain ⟨⟨f, f1, f2⟩, _, _, _, hne⟩ := h p hp
  exact ⟨f, by rw [o.get _ (fun e => hne (ByteArray.ext (Array.toList_inj.1 e)))]; exact f1, f2⟩
structure MgS (s0 : St) (b0 : Bu) (F : List (ByteArray × ByteArray)) (out : ByteArray) (size : Int) (s : St) (b : Bu) (wx : Ws) (ys : List Rs) (G : List (List ByteArray × Bool)) (done : List ByteArray) : Prop where
  src : Srcs s b size F ys G
  wr : WrOn ⟨s, b, wx⟩ out size done
  oth : Oth out.data.toList 1 s0 s
  now : b.now = b0.now + 4 + 4 * (opnN ys : Nat)
  bm : b.m = b0.m
  n0 : 0 ≤ b0.now
  calls : s.calls ≤ s0.calls + 2 + 2 * (ys.length : Nat) + (callsG G : Nat) + (done.length : Nat)
  calm : WrPlain.Calm s0 → s0.fs.length ≤ 150 → (used s0.fs : Int) + 28 + 69 * (done.length : Nat) ≤ s0.room → WrPlain.Calm s ∧ Fits ⟨s, b, wx⟩ (used s0.fs)
theorem mgS_start {s0 : St} {b0 : Bu} {F : List (ByteArray × ByteArray)} {out : ByteArray} {size : Int} (hs : s0.ok) (hb : b0.ok) (hn : out.size ≤ 24) (hm : rightB out.data.toList = true) (hz : sizeB size = true) (hg : s0.get out.data.toList = none) (h0 : (createM s0 b0 out size).2.2 = 0) :
    MgS s0 b0 F out size (createM s0 b0 out size).1 (createM s0 b0 out size).2.1 (newWs out size) [] [] [] := by
  rcases create_f hs hb hn hm hz hg with ⟨_, h4, hW, hB, hO⟩ | ⟨e, h4, _⟩ | ⟨e, _⟩
  · obtain ⟨_, t1, t2⟩ := take_yes h4 (by decide)
    have hc := createM_calls s0 b0 out size
    refine ⟨srcs_none _ _ _ _, hW, hO, by rw [hB, t1]; simp [opnN], by rw [hB, t2], hb.n0, ?_, fun a1 a2 a3 => ?_⟩
    · simp [callsG]; omega
    · obtain ⟨_, f1, f2⟩ := create_fits (b := b0) (nn := size) hs h4 a1 hz hg hn (by omega) (by simp at a3; omega)
      refine ⟨f1, ?_⟩
      unfold Fits
      show used (createM s0 b0 out size).1.fs + 69 * 0 ≤ used s0.fs + 11 + 69 * 0
      omega
  · rw [h0] at e; exact absurd e.symm h4
  · rcases e with e | e <;> rw [h0] at e <;> cases e
theorem MgS.open {s0 : St} {b0 : Bu} {F : List (ByteArray × ByteArray)} {out : ByteArray} {size : Int} {s : St} {b : Bu} {wx : Ws} {ys : List Rs} {G : List (List ByteArray × Bool)} {done : List ByteArray} (h : MgS s0 b0 F out size s b wx ys G done) (hF : FilesOk s0 F out) {nm C : ByteArray} (hi : F[ys.length]? = some (nm, C)) :
    ((openN s b nm size).2.2.1 = 0 ∧ MgS s0 b0 F out size (openN s b nm size).1 (openN s b nm size).2.1 wx (ys ++ [newRs nm size (openN s b nm size).2.2.2]) (G ++ [([], false)]) done) ∨ ((openN s b nm size).2.2.1 ≠ 0 ∧ NoOpen s b C size (openN s b nm size)) := by
  obtain ⟨_, _, hr, hz, _⟩ := hF _ (List.mem_of_getElem? hi)
  have hin := hF.at h.oth _ (List.mem_of_getElem? hi)
  have hc := openN_calls s b nm size
  rcases open_f (size := size) hin h.wr.ok.s h.wr.ok.b hz hr with ⟨e0, e4, eb, eq, eR⟩ | k
  · left
    obtain ⟨_, t1, t2⟩ := take_yes e4 (by decide)
    have ho := h.oth.trans (oth_quiet out.data.toList eq)
    refine ⟨e0, (h.src.open (hF.at ho) hi eR), WrOn.other h.wr eq eR.ok.s eR.ok.b, ho, ?_, ?_, h.n0, ?_, fun a1 a2 a3 => ?_⟩
    · rw [eb, t1, h.now, opn_snoc _ (show (newRs nm size (openN s b nm size).2.2.2).opn = true from rfl)]; omega
    · rw [eb, t2]; exact h.bm
    · have := h.calls
      rw [List.length_append, List.length_singleton, callsG_snoc]
      omega
    · obtain ⟨c1, c2⟩ := h.calm a1 a2 a3
      exact ⟨eq.calm c1.1 c1.2, Fits.other c2 eq⟩
  · exact .inr k
theorem MgS.put {s0 : St} {b0 : Bu} {F : List (ByteArray × ByteArray)} {out : ByteArray} {size : Int} {s : St} {b : Bu} {wx : Ws} {ys : List Rs} {G : List (List ByteArray × Bool)} {done : List ByteArray} (h : MgS s0 b0 F out size s b wx ys G done) (hF : FilesOk s0 F out) {x : ByteArray} (hz : (x.size : Int) = size) :
    ((putM ⟨s, b, wx⟩ x).2 = 0 ∧ MgS s0 b0 F out size (putM ⟨s, b, wx⟩ x).1.s (putM ⟨s, b, wx⟩ x).1.b (putM ⟨s, b, wx⟩ x).1.x ys G (done ++ [x])) ∨
    (((putM ⟨s, b, wx⟩ x).2 = 4 ∨ (putM ⟨s, b, wx⟩ x).2 = 5) ∧ Gone ⟨s, b, wx⟩ (putM ⟨s, b, wx⟩ x).1 out (putM ⟨s, b, wx⟩ x).2 ∧ ¬ (WrPlain.Calm s0 ∧ s0.fs.length ≤ 150 ∧ (used s0.fs : Int) + 28 + 69 * ((done.length : Nat) + 1) ≤ s0.room)) := by
  have hc := putM_calls ⟨s, b, wx⟩ x
  have key : WrPlain.Calm s0 → s0.fs.length ≤ 150 → (used s0.fs : Int) + 28 + 69 * ((done.length : Nat) + 1) ≤ s0.room → (putM ⟨s, b, wx⟩ x).2 = 0 ∧ WrPlain.Calm (putM ⟨s, b, wx⟩ x).1.s ∧ Fits (putM ⟨s, b, wx⟩ x).1 (used s0.fs) := fun a1 a2 a3 => by
    obtain ⟨c1, c2⟩ := h.calm a1 a2 (by omega)
    have hrm : s.room = s0.room := h.oth.room
    exact put_fits h.wr c1 hz c2 (by show (_ : Int) ≤ s.room; rw [hrm]; omega)
  rcases put_f h.wr hz with ⟨e0, eW, eb, eO⟩ | eG
  · left
    have ho := h.oth.trans eO
    refine ⟨e0, ?_, eW, ho, by rw [eb]; exact h.now, by rw [eb]; exact h.bm, h.n0, ?_, fun a1 a2 a3 => ?_⟩
    · exact h.src.other (hF.at ho) eW.ok.s eW.ok.b
    · have h1 := h.calls
      have h2 : (putM ⟨s, b, wx⟩ x).1.s.calls ≤ s.calls + 1 := by
        have := hc
        omega
      rw [List.length_append, List.length_singleton]
      omega
    · rw [List.length_append, List.length_singleton] at a3
      obtain ⟨_, k1, k2⟩ := key a1 a2 (by omega)
      exact ⟨k1, k2⟩
  · right
    exact ⟨eG.code, eG, fun ⟨a1, a2, a3⟩ => by
      have := (key a1 a2 a3).1
      rcases eG.code with e | e <;> rw [this] at e <;> cases e⟩
theorem MgS.next {s0 : St} {b0 : Bu} {F : List (ByteArray × ByteArray)} {out : ByteArray} {size : Int} {s : St} {b : Bu} {wx : Ws} {ys : List Rs} {G : List (List ByteArray × Bool)} {done : List ByteArray} (h : MgS s0 b0 F out size s b wx ys G done) (hF : FilesOk s0 F out) {i : Nat} {y : Rs} {g : List ByteArray} (hy : ys[i]? = some y) (hg : G[i]? = some (g, false)) :
    ∃ nm C, F[i]? = some (nm, C) ∧
    (((nextN ⟨s, b, y⟩).2.2.1 = true ∧ (nextN ⟨s, b, y⟩).2.2.2 = 0 ∧ MgS s0 b0 F out size (nextN ⟨s, b, y⟩).1.s (nextN ⟨s, b, y⟩).1.b wx (ys.set i (nextN ⟨s, b, y⟩).1.x) (G.set i (g ++ [(nextN ⟨s, b, y⟩).2.1], false)) done ∧ ((nextN ⟨s, b, y⟩).2.1.size : Int) = size) ∨
    ((nextN ⟨s, b, y⟩).2.2.1 = false ∧ (nextN ⟨s, b, y⟩).2.1 = ⟨#[]⟩ ∧ (nextN ⟨s, b, y⟩).2.2.2 = 0 ∧ MgS s0 b0 F out size (nextN ⟨s, b, y⟩).1.s (nextN ⟨s, b, y⟩).1.b wx (ys.set i (nextN ⟨s, b, y⟩).1.x) (G.set i (g, true)) done) ∨
    ((nextN ⟨s, b, y⟩).2.2.1 = false ∧ (nextN ⟨s, b, y⟩).2.1 = ⟨#[]⟩ ∧ Quiet s (nextN ⟨s, b, y⟩).1.s ∧ (nextN ⟨s, b, y⟩).1.s.ok ∧ N3.inv (nextN ⟨s, b, y⟩).1 ∧ (nextN ⟨s, b, y⟩).1.s.calls ≤ s.calls + 1 ∧ (nextN ⟨s, b, y⟩).1.b = b.give 4 ∧ (nextN ⟨s, b, y⟩).1.x.opn = false ∧ (((nextN ⟨s, b, y⟩).2.2.2 = 6 ∧ ∀ L, ¬ IsFile size C L) ∨ ((nextN ⟨s, b, y⟩).2.2.2 = 5 ∧ ¬ WrPlain.Calm s)))) := by
  have hyl := (List.getElem?_eq_some_iff.1 hy).1
  obtain ⟨p, hp⟩ : ∃ p, F[i]? = some p := ⟨F[i]'(Nat.lt_of_lt_of_le hyl h.src.le), List.getElem?_eq_getElem _⟩
  obtain ⟨nm, C⟩ := p
  refine ⟨nm, C, hp, ?_⟩
  have hS := h.src.src i nm C y g false hp hy hg
  obtain ⟨_, hz, _⟩ := hF _ (List.mem_of_getElem? hp)
  have hop : y.opn = true := hS.opn
  have hz2 : C.size ≤ 5000 := hz
  obtain ⟨q1, q2, q3, q4, q5, hh⟩ := hS.next (by omega)
  have ho := h.oth.trans (oth_quiet out.data.toList q1)
  have hcl := h.calls
  have hcalm : WrPlain.Calm s0 → s0.fs.length ≤ 150 → (used s0.fs : Int) + 28 + 69 * (done.length : Nat) ≤ s0.room → WrPlain.Calm (nextN ⟨s, b, y⟩).1.s ∧ Fits ⟨(nextN ⟨s, b, y⟩).1.s, (nextN ⟨s, b, y⟩).1.b, wx⟩ (used s0.fs) := fun a1 a2 a3 => by
    obtain ⟨c1, c2⟩ := h.calm a1 a2 a3
    exact ⟨q1.calm c1.1 c1.2, Fits.other c2 q1⟩
  rcases hh with ⟨e1, e2, e3, e4⟩ | ⟨e1, e2, e3, e4, hh⟩
  · left
    have hk := callsG_set (g' := (g ++ [(nextN ⟨s, b, y⟩).2.1], false)) hg
    rw [List.length_append, List.length_singleton] at hk
    have ho2 := opn_set (y' := (nextN ⟨s, b, y⟩).1.x) hy
    have hx : (nextN ⟨s, b, y⟩).1.x.opn = true := e4.opn
    rw [hop, hx] at ho2
    refine ⟨e1, e2, ⟨h.src.turn (hF.at ho) q2 q3 hp hyl e4, WrOn.other h.wr q1 q2 q3, ho, ?_, by rw [e3]; exact h.bm, h.n0, ?_, hcalm⟩, e4.sizes _ (by simp)⟩
    · rw [e3, h.now]; omega
    · rw [List.length_set]
      simp only [Bool.false_eq_true, if_false] at hk
      omega
  · have ho2 := opn_set (y' := (nextN ⟨s, b, y⟩).1.x) hy
    rw [hop, e4] at ho2
    simp only [if_true, Bool.false_eq_true, if_false] at ho2
    rcases hh with ⟨k1, k2⟩ | hh
    · right; left
      have hk := callsG_set (g' := (g, true)) hg
      obtain ⟨g1, g2⟩ := give_now (b := b) (n := 4) (by decide)
      refine ⟨e1, e2, k1, ⟨h.src.turn (hF.at ho) q2 q3 hp hyl k2, WrOn.other h.wr q1 q2 q3, ho, ?_, by rw [e3, g2]; exact h.bm, h.n0, ?_, hcalm⟩⟩
      · rw [e3, g1, h.now]
        have hb0 := h.now
        have := h.n0
        omega
      · rw [List.length_set]
        simp only [Bool.false_eq_true, if_false, if_true] at hk
        omega
    · right; right
      exact ⟨e1, e2, q1, q2, q5, q4, e3, e4, hh⟩
end Go.Proofs.YtjplkmmhjfpdaaaGreatDoor
