/- In one text: MgParts, MgState. -/
import Derived.Test.YtpmglnghnelenaaGreatP26
import Derived.Test.YtpmglnghnelenaaGreatP28
import Derived.Test.YtpmglnghnelenaaGreatP34
import Derived.Laws.MakeOwn
/- A merge's parts: readers, a disk, a budget, a tree, a writer; calls on each of them. -/
namespace Go.Proofs.YtpmglnghnelenaaGreat
open Go.RowKit FsPlain CrcPlain OctPlain FramePlain RecPlain RdPlain RnPlain LoPlain WrPlain
set_option linter.unusedVariables false
set_option linter.unusedSimpArgs false
set_option maxRecDepth 20000
/-- Sources, as they lie in a list. -/
def ptrs17 (xs : List Nat) : List Value := xs.map fun x => .pointer (some ⟨x, 0, none⟩)
theorem ptrs_at {xs : List Nat} {i x : Nat} (h : xs[i]? = some x) : (ptrs17 xs)[i]? = some (.pointer (some ⟨x, 0, none⟩)) := by unfold ptrs17; rw [List.getElem?_map, h]; rfl
theorem fst_set {rs : List (Nat × Rs)} {i x : Nat} {y : Rs} (h : rs[i]? = some (x, y)) (y' : Rs) : (rs.set i (x, y')).map (·.1) = rs.map (·.1) := by
  refine List.ext_getElem? fun j => ?_
  rw [List.getElem?_map, List.getElem?_map]
  by_cases e : j = i
  · subst e
    rw [List.getElem?_set_self (List.getElem?_eq_some_iff.1 h).1, h]; rfl
  · rw [List.getElem?_set_ne (Ne.symm e)]
theorem snd_set (rs : List (Nat × Rs)) (i x : Nat) (y' : Rs) : (rs.set i (x, y')).map (·.2) = (rs.map (·.2)).set i y' := by rw [List.map_set]
theorem rs_at {rs : List (Nat × Rs)} {xs : List Nat} (h : rs.map (·.1) = xs) {i : Nat} (hi : i < rs.length) : ∃ x y, rs[i]? = some (x, y) ∧ xs[i]? = some x ∧ (rs.map (·.2))[i]? = some y := by
  refine ⟨rs[i].1, rs[i].2, List.getElem?_eq_getElem hi, ?_, ?_⟩
  · rw [← h, List.getElem?_map, List.getElem?_eq_getElem hi]; rfl
  · rw [List.getElem?_map, List.getElem?_eq_getElem hi]; rfl
theorem perm_in (R K M : List Asn) (a : Asn) : (R ++ (K ++ (a :: M))).Perm (a :: (R ++ (K ++ M))) := by
  rw [← List.append_assoc, ← List.append_assoc]
  exact List.perm_middle
/-- A call on a part in the middle. -/
theorem does_in {Pr : Program} {f : FuncId} {args : Array Value} {v : Value} {R K M : List Asn} {a a' : Asn} {w : World} {B : Nat → Prop} (hR : Frs R) (hK : Frs K) (ha : Fr a) (hM : Frs M) (h : stars (R ++ (K ++ (a :: M))) w B) (k : ∀ B1, a w B1 → Calls Pr f args w (Does w B1 a' v)) : Calls Pr f args w (Does w B (stars (R ++ (K ++ (a' :: M)))) v) :=
  (does_at (L := a :: (R ++ (K ++ M))) (Q := a') 0 rfl ⟨ha, frs_app hR (frs_app hK hM)⟩ (stars_perm (perm_in R K M a) h) k).mono fun e w' hd => hd.imp fun B' q => stars_perm (perm_in R K M a').symm q
theorem frs_db17 (D P : Nat) (s : St) (b : Bu) : Frs [DiskA D s, BuA P b] := ⟨fr_disk _ _, fr_bu _ _, trivial⟩
theorem frs_all17 (D P : Nat) (rs : List (Nat × Rs)) (s : St) (b : Bu) {M : List Asn} (hM : Frs M) : Frs (rdsA D P rs ++ ([DiskA D s, BuA P b] ++ M)) := frs_app (frs_rds D P rs) (frs_app (frs_db17 D P s b) hM)
/-- What is behind the readers, the disk and the budget. -/
theorem rest17 {R K M : List Asn} {w : World} {B : Nat → Prop} (h : stars (R ++ (K ++ M)) w B) : ∃ B', stars M w B' := by
  obtain ⟨_, B2, _, h2, _⟩ := stars_app.1 h
  obtain ⟨_, B3, _, h3, _⟩ := stars_app.1 h2
  exact ⟨B3, h3⟩
theorem tail17 {a : Asn} {M : List Asn} {w : World} {B : Nat → Prop} (h : stars (a :: M) w B) : ∃ B', stars M w B' := by
  obtain ⟨_, B2, _, h2, _⟩ := h
  exact ⟨B2, h2⟩
theorem drop_in {R K M : List Asn} {a : Asn} {w : World} {B : Nat → Prop} (h : stars (R ++ (K ++ (a :: M))) w B) : ∃ B', stars (R ++ (K ++ M)) w B' ∧ Nx B w B' w := stars_drop (stars_perm (perm_in R K M a) h)
theorem perm_wr (R : List Asn) (d b : Asn) (K M : List Asn) (a : Asn) : (R ++ ([d, b] ++ (K ++ (a :: M)))).Perm ([a, d, b] ++ (R ++ (K ++ M))) := by
  have h1 : (R ++ ([d, b] ++ (K ++ (a :: M)))).Perm ([d, b] ++ (R ++ (K ++ (a :: M)))) := by
    rw [← List.append_assoc R, ← List.append_assoc [d, b] R]
    exact List.perm_append_comm.append_right _
  have h2 : ([d, b] ++ (R ++ (K ++ (a :: M)))).Perm (a :: ([d, b] ++ (R ++ (K ++ M)))) := by
    have e1 : [d, b] ++ (R ++ (K ++ (a :: M))) = ([d, b] ++ (R ++ K)) ++ (a :: M) := by simp
    have e2 : [d, b] ++ (R ++ (K ++ M)) = ([d, b] ++ (R ++ K)) ++ M := by simp
    rw [e1, e2]
    exact List.perm_middle
  exact h1.trans h2
/-- Put. -/
theorem mput_c {x D P : Nat} {rs : List (Nat × Rs)} {s : St} {b : Bu} {wx : Ws} (K : List Asn) (r : ByteArray) (hm : M3.ok ⟨s, b, wx⟩) (hal : wx.all.length ≤ 100000) (hc : s.calls ≤ 100000000000) {w : World} {B : Nat → Prop} {M : List Asn} (hK : Frs K) (hM : Frs M) (h : stars (rdsA D P rs ++ ([DiskA D s, BuA P b] ++ (K ++ (WrA x D P wx :: M)))) w B) :
    Calls Tryz.prog 63 #[.pointer (some ⟨x, 0, none⟩), .string r] w (Does w B (stars (rdsA D P rs ++ ([DiskA D (putM ⟨s, b, wx⟩ r).1.s, BuA P (putM ⟨s, b, wx⟩ r).1.b] ++ (K ++ (WrA x D P (putM ⟨s, b, wx⟩ r).1.x :: M))))) (.int .i64 (putM ⟨s, b, wx⟩ r).2)) :=
  (wr_put (m := ⟨s, b, wx⟩) r hm hal hc (frs_app (frs_rds D P rs) (frs_app hK hM)) (stars_perm (perm_wr _ _ _ K M _) h)).mono fun e w' hd => hd.imp fun B' q => stars_perm (perm_wr _ _ _ K M _).symm q
theorem mclose_c {x D P : Nat} {rs : List (Nat × Rs)} {s : St} {b : Bu} {wx : Ws} (hm : M3.ok ⟨s, b, wx⟩) (hal : wx.all.length ≤ 100000) (hc : s.calls ≤ 100000000000) {w : World} {B : Nat → Prop} {M : List Asn} (hM : Frs M) (h : stars (rdsA D P rs ++ ([DiskA D s, BuA P b] ++ (WrA x D P wx :: M))) w B) :
    Calls Tryz.prog 31 #[.pointer (some ⟨x, 0, none⟩)] w (Does w B (stars (rdsA D P rs ++ ([DiskA D (closeM ⟨s, b, wx⟩).1.s, BuA P (closeM ⟨s, b, wx⟩).1.b] ++ (WrA x D P (closeM ⟨s, b, wx⟩).1.x :: M)))) (closeV ⟨s, b, wx⟩ (closeM ⟨s, b, wx⟩).2)) :=
  (wr_close (m := ⟨s, b, wx⟩) hm hal hc (frs_app (frs_rds D P rs) hM) (stars_perm (perm_wr _ _ _ [] M _) h)).mono fun e w' hd => hd.imp fun B' q => stars_perm (perm_wr _ _ _ [] M _).symm q
theorem mdrop_d {x D P : Nat} {rs : List (Nat × Rs)} {s : St} {b : Bu} {wx : Ws} (u : FrameMode) {w : World} {B : Nat → Prop} {M : List Asn} (hM : Frs M) (h : stars (rdsA D P rs ++ ([DiskA D s, BuA P b] ++ (WrA x D P wx :: M))) w B) :
    CallsD Tryz.prog 27 #[.pointer (some ⟨x, 0, none⟩)] u w fun e u' w' => u' = u ∧ Does w B (stars (rdsA D P rs ++ ([DiskA D (dropM ⟨s, b, wx⟩).s, BuA P (dropM ⟨s, b, wx⟩).b] ++ (WrA x D P (dropM ⟨s, b, wx⟩).x :: M)))) (.tuple #[]) e w' :=
  (wr_drop_d (m := ⟨s, b, wx⟩) u (frs_app (frs_rds D P rs) hM) (stars_perm (perm_wr _ _ _ [] M _) h)).mono fun e u' w' hd => ⟨hd.1, hd.2.imp fun B' q => stars_perm (perm_wr _ _ _ [] M _).symm q⟩
/-- The readers forgotten. -/
theorem forget17 {R K M : List Asn} {w : World} {B : Nat → Prop} (h : stars (R ++ (K ++ M)) w B) : ∃ B', stars (K ++ M) w B' ∧ Nx B w B' w := by
  obtain ⟨B1, B2, _, h2, _, e⟩ := stars_app.1 h
  exact ⟨B2, h2, Only.refl _ _, fun b hb => .inl ((e b).2 (.inr hb))⟩
/-- Texts, and whether each is over: as they lie. -/
def texts17 (H : List Hd) : Array Value := (H.map fun z => Value.string z.s).toArray
def overs17 (H : List Hd) : Array Value := (H.map fun z => Value.bool z.o).toArray
theorem texts_set (H : List Hd) (j : Nat) (z : Hd) : (texts17 H).setIfInBounds j (.string z.s) = texts17 (H.set j z) := by unfold texts17; rw [List.setIfInBounds_toArray, List.map_set]
theorem overs_set (H : List Hd) (j : Nat) (z : Hd) : (overs17 H).setIfInBounds j (.bool z.o) = overs17 (H.set j z) := by unfold overs17; rw [List.setIfInBounds_toArray, List.map_set]
theorem texts_lies {g n : Nat} {H : List Hd} {w : World} (hn : H.length = n) (h : w.heap[g]? = some (.cells (texts17 H) 9 (0, 0))) : Lies w (.slice (some ⟨g, 0, none⟩) n n) (H.map (·.s)) := by
  refine ⟨_, n, by rw [List.length_map, hn], by rw [List.length_map, hn]; exact Nat.le_refl _, .inr ⟨g, 0, rfl, lt_of_block h, fun j r hj => ?_⟩⟩
  rw [List.getElem?_map, Option.map_eq_some_iff] at hj
  obtain ⟨z, hz, rfl⟩ := hj
  rw [cells_at h]
  unfold texts17
  rw [List.getElem?_toArray, List.getElem?_map, Nat.zero_add, hz]; rfl
theorem overs_lies {g n : Nat} {H : List Hd} {w : World} (hn : H.length = n) (h : w.heap[g]? = some (.cells (overs17 H) 4 (0, 0))) : LiesV w (.slice (some ⟨g, 0, none⟩) n n) (bools (H.map (·.o))) := by
  have hl : (bools (H.map (·.o))).length = n := by unfold bools; rw [List.length_map, List.length_map, hn]
  refine ⟨_, n, by rw [hl], by rw [hl]; exact Nat.le_refl _, .inr ⟨g, 0, rfl, lt_of_block h, fun j r hj => ?_⟩⟩
  unfold bools at hj
  rw [List.getElem?_map, List.getElem?_map, Option.map_map, Option.map_eq_some_iff] at hj
  obtain ⟨z, hz, rfl⟩ := hj
  rw [cells_at h]
  unfold overs17
  rw [List.getElem?_toArray, List.getElem?_map, Nat.zero_add, hz]; rfl
theorem mkL_of : ∀ H : List Hd, mkL (H.map (·.s)) (H.map (·.o)) = H
  | [] => rfl
  | z :: H => by simp only [List.map_cons, mkL]; rw [mkL_of H]
/-- The first records of the first j ones are there. -/
structure PlH (n j : Nat) (G : List (List ByteArray × Bool)) (H : List Hd) : Prop where
  len : H.length = n
  glen : G.length = n
  old : ∀ (i : Nat) (z : Hd), i < j → H[i]? = some z → G[i]? = some (if z.o = true then [] else [z.s], z.o)
  new : ∀ i, j ≤ i → i < n → G[i]? = some ([], false)
  few : ∀ z ∈ H, z.s.size ≤ 64
theorem plH_start (n : Nat) : PlH n 0 (List.replicate n ([], false)) (List.replicate n ⟨⟨#[]⟩, false⟩) :=
  ⟨by simp, by simp, fun i z hi => by omega, fun i _ hi => by rw [List.getElem?_replicate, if_pos hi], fun z hz => by rw [(List.mem_replicate.1 hz).2]; show (0 : Nat) ≤ 64; omega⟩
theorem PlH.step {n j : Nat} {G : List (List ByteArray × Bool)} {H : List Hd} (h : PlH n j G H) (hj : j < n) (r : ByteArray) (o : Bool) (hr : r.size ≤ 64) : PlH n (j + 1) (G.set j (if o = true then [] else [r], o)) (H.set j ⟨r, o⟩) := by
  refine ⟨by rw [List.length_set]; exact h.len, by rw [List.length_set]; exact h.glen, fun i z hi hz => ?_, fun i hi hn => ?_, fun z hz => ?_⟩
  · by_cases e : i = j
    · subst e
      rw [List.getElem?_set_self (by rw [h.len]; exact hj)] at hz
      cases hz
      rw [List.getElem?_set_self (by rw [h.glen]; exact hj)]
    · rw [List.getElem?_set_ne (Ne.symm e)] at hz ⊢
      exact h.old i z (by omega) hz
  · rw [List.getElem?_set_ne (by omega)]
    exact h.new i (by omega) hn
  · rcases List.mem_or_eq_of_mem_set hz with k | k
    · exact h.few z k
    · rw [k]; exact hr
end Go.Proofs.YtpmglnghnelenaaGreat
/- Plain facts: a merge on its way: a file that is written, several that are read; what each way out leaves. -/
namespace Go.Proofs.YtpmglnghnelenaaGreat
open Go.RowKit FsPlain CrcPlain OctPlain FramePlain RecPlain RdPlain RnPlain LoPlain WrPlain
set_option linter.unusedVariables false
set_option linter.unusedSimpArgs false
set_option maxRecDepth 20000
theorem flat_le : ∀ {A B : List (List ByteArray)}, A.length ≤ B.length → (∀ (i : Nat) (a b : List ByteArray), A[i]? = some a → B[i]? = some b → a.length ≤ b.length) → A.flatten.length ≤ B.flatten.length
  | [], B, _, _ => Nat.zero_le _
  | a :: A, [], h, _ => by simp at h
  | a :: A, b :: B, h, k => by
    have h1 := k 0 a b rfl rfl
    have h2 := flat_le (A := A) (B := B) (by simpa using h) fun i x y hx hy => k (i + 1) x y (by simpa using hx) (by simpa using hy)
    rw [List.flatten_cons, List.flatten_cons, List.length_append, List.length_append]
    omega
/-- How many calls were made for what was told. -/
def callsG (G : List (List ByteArray × Bool)) : Nat := (G.map fun g => g.1.length + (if g.2 = true then 1 else 0)).sum
theorem callsG_snoc (G : List (List ByteArray × Bool)) : callsG (G ++ [([], false)]) = callsG G := by unfold callsG; simp
theorem callsG_set : ∀ {G : List (List ByteArray × Bool)} {i : Nat} {g : List ByteArray} {o : Bool} {g' : List ByteArray × Bool}, G[i]? = some (g, o) → callsG (G.set i g') + (g.length + if o = true then 1 else 0) = callsG G + (g'.1.length + if g'.2 = true then 1 else 0)
  | [], i, g, o, g', h => by simp at h
  | a :: G, 0, g, o, g', h => by
    simp only [List.getElem?_cons_zero, Option.some.injEq] at h
    subst h
    unfold callsG
    simp only [List.set_cons_zero, List.map_cons, List.sum_cons]
    omega
  | a :: G, i + 1, g, o, g', h => by
    simp only [List.getElem?_cons_succ] at h
    have ih := callsG_set (g' := g') h
    unfold callsG at ih ⊢
    simp only [List.set_cons_succ, List.map_cons, List.sum_cons]
    omega
/-- The files, as Merge asks for them. -/
def FilesOk (s0 : St) (F : List (ByteArray × ByteArray)) (out : ByteArray) : Prop := ∀ p ∈ F, HasD s0 p.1.data.toList p.2 ∧ p.2.size ≤ 3000 ∧ rightB p.1.data.toList = true ∧ p.1.size ≤ 24 ∧ p.1 ≠ out
theorem FilesOk.at {s0 s : St} {F : List (ByteArray × ByteArray)} {out : ByteArray} {d : Nat} (h : FilesOk s0 F out) (o : Oth out.data.toList d s0 s) : ∀ p ∈ F, HasD s p.1.data.toList p.2 := fun p hp => by
  obtain ⟨⟨f, f1, f2⟩, _, _, _, hne⟩ := h p hp
  exact ⟨f, by rw [o.get _ (fun e => hne (ByteArray.ext (Array.toList_inj.1 e)))]; exact f1, f2⟩
/-- On the way. -/
structure MgS (s0 : St) (b0 : Bu) (F : List (ByteArray × ByteArray)) (out : ByteArray) (size : Int) (s : St) (b : Bu) (wx : Ws) (ys : List Rs) (G : List (List ByteArray × Bool)) (done : List ByteArray) : Prop where
  src : Srcs s b size F ys G
  wr : WrOn ⟨s, b, wx⟩ out size done
  oth : Oth out.data.toList 1 s0 s
  now : b.now = b0.now + 4 + 4 * (opnN ys : Nat)
  bm : b.m = b0.m
  n0 : 0 ≤ b0.now
  calls : s.calls ≤ s0.calls + 2 + 2 * (ys.length : Nat) + (callsG G : Nat) + (done.length : Nat)
  calm : WrPlain.Calm s0 → s0.fs.length ≤ 150 → (used s0.fs : Int) + 28 + 69 * (done.length : Nat) ≤ s0.room → WrPlain.Calm s ∧ Fits ⟨s, b, wx⟩ (used s0.fs)
/-- Created. -/
theorem mgS_start {s0 : St} {b0 : Bu} {F : List (ByteArray × ByteArray)} {out : ByteArray} {size : Int} (hs : s0.ok) (hb : b0.ok) (hn : out.size ≤ 24) (hm : rightB out.data.toList = true) (hz : sizeB size = true) (hg : s0.get out.data.toList = none) (h0 : (createM s0 b0 out size).2.2 = 0) :
    MgS s0 b0 F out size (createM s0 b0 out size).1 (createM s0 b0 out size).2.1 (newWs out size) [] [] [] := by
  rcases create_f hs hb hn hm hz hg with ⟨_, h4, hW, hB, hO⟩ | ⟨e, h4, _⟩ | ⟨e, _⟩
  · obtain ⟨_, t1, t2⟩ := take_yes h4 (by decide)
    have hc := createM_calls s0 b0 out size
    refine ⟨srcs_none _ _ _ _, hW, hO, by rw [hB, t1]; simp [opnN], by rw [hB, t2], hb.n0, ?_, fun a1 a2 a3 => ?_⟩
    · simp [callsG]; omega
    · obtain ⟨_, f1, f2⟩ := create_fits (b := b0) (nn := size) hs h4 a1 hz hg hn (by omega) (by simp at a3; omega)
      refine ⟨f1, ?_⟩
      unfold Fits
      show used (createM s0 b0 out size).1.fs + 69 * 0 ≤ used s0.fs + 11 + 69 * 0
      omega
  · rw [h0] at e; exact absurd e.symm h4
  · rcases e with e | e <;> rw [h0] at e <;> cases e
/-- One more is opened. -/
theorem MgS.open {s0 : St} {b0 : Bu} {F : List (ByteArray × ByteArray)} {out : ByteArray} {size : Int} {s : St} {b : Bu} {wx : Ws} {ys : List Rs} {G : List (List ByteArray × Bool)} {done : List ByteArray} (h : MgS s0 b0 F out size s b wx ys G done) (hF : FilesOk s0 F out) {nm C : ByteArray} (hi : F[ys.length]? = some (nm, C)) :
    ((openN s b nm size).2.2.1 = 0 ∧ MgS s0 b0 F out size (openN s b nm size).1 (openN s b nm size).2.1 wx (ys ++ [newRs nm size (openN s b nm size).2.2.2]) (G ++ [([], false)]) done) ∨ ((openN s b nm size).2.2.1 ≠ 0 ∧ NoOpen s b C size (openN s b nm size)) := by
  obtain ⟨_, _, hr, hz, _⟩ := hF _ (List.mem_of_getElem? hi)
  have hin := hF.at h.oth _ (List.mem_of_getElem? hi)
  have hc := openN_calls s b nm size
  rcases open_f (size := size) hin h.wr.ok.s h.wr.ok.b hz hr with ⟨e0, e4, eb, eq, eR⟩ | k
  · left
    obtain ⟨_, t1, t2⟩ := take_yes e4 (by decide)
    have ho := h.oth.trans (oth_quiet out.data.toList eq)
    refine ⟨e0, (h.src.open (hF.at ho) hi eR), WrOn.other h.wr eq eR.ok.s eR.ok.b, ho, ?_, ?_, h.n0, ?_, fun a1 a2 a3 => ?_⟩
    · rw [eb, t1, h.now, opn_snoc _ (show (newRs nm size (openN s b nm size).2.2.2).opn = true from rfl)]; omega
    · rw [eb, t2]; exact h.bm
    · have := h.calls
      rw [List.length_append, List.length_singleton, callsG_snoc]
      omega
    · obtain ⟨c1, c2⟩ := h.calm a1 a2 a3
      exact ⟨eq.calm c1.1 c1.2, Fits.other c2 eq⟩
  · exact .inr k
/-- A record is put. -/
theorem MgS.put {s0 : St} {b0 : Bu} {F : List (ByteArray × ByteArray)} {out : ByteArray} {size : Int} {s : St} {b : Bu} {wx : Ws} {ys : List Rs} {G : List (List ByteArray × Bool)} {done : List ByteArray} (h : MgS s0 b0 F out size s b wx ys G done) (hF : FilesOk s0 F out) {x : ByteArray} (hz : (x.size : Int) = size) :
    ((putM ⟨s, b, wx⟩ x).2 = 0 ∧ MgS s0 b0 F out size (putM ⟨s, b, wx⟩ x).1.s (putM ⟨s, b, wx⟩ x).1.b (putM ⟨s, b, wx⟩ x).1.x ys G (done ++ [x])) ∨
    (((putM ⟨s, b, wx⟩ x).2 = 4 ∨ (putM ⟨s, b, wx⟩ x).2 = 5) ∧ Gone ⟨s, b, wx⟩ (putM ⟨s, b, wx⟩ x).1 out (putM ⟨s, b, wx⟩ x).2 ∧ ¬ (WrPlain.Calm s0 ∧ s0.fs.length ≤ 150 ∧ (used s0.fs : Int) + 28 + 69 * ((done.length : Nat) + 1) ≤ s0.room)) := by
  have hc := putM_calls ⟨s, b, wx⟩ x
  have key : WrPlain.Calm s0 → s0.fs.length ≤ 150 → (used s0.fs : Int) + 28 + 69 * ((done.length : Nat) + 1) ≤ s0.room → (putM ⟨s, b, wx⟩ x).2 = 0 ∧ WrPlain.Calm (putM ⟨s, b, wx⟩ x).1.s ∧ Fits (putM ⟨s, b, wx⟩ x).1 (used s0.fs) := fun a1 a2 a3 => by
    obtain ⟨c1, c2⟩ := h.calm a1 a2 (by omega)
    have hrm : s.room = s0.room := h.oth.room
    exact put_fits h.wr c1 hz c2 (by show (_ : Int) ≤ s.room; rw [hrm]; omega)
  rcases put_f h.wr hz with ⟨e0, eW, eb, eO⟩ | eG
  · left
    have ho := h.oth.trans eO
    refine ⟨e0, ?_, eW, ho, by rw [eb]; exact h.now, by rw [eb]; exact h.bm, h.n0, ?_, fun a1 a2 a3 => ?_⟩
    · exact h.src.other (hF.at ho) eW.ok.s eW.ok.b
    · have h1 := h.calls
      have h2 : (putM ⟨s, b, wx⟩ x).1.s.calls ≤ s.calls + 1 := by
        have := hc
        omega
      rw [List.length_append, List.length_singleton]
      omega
    · rw [List.length_append, List.length_singleton] at a3
      obtain ⟨_, k1, k2⟩ := key a1 a2 (by omega)
      exact ⟨k1, k2⟩
  · right
    exact ⟨eG.code, eG, fun ⟨a1, a2, a3⟩ => by
      have := (key a1 a2 a3).1
      rcases eG.code with e | e <;> rw [this] at e <;> cases e⟩
/-- The next record of the i-th one. -/
theorem MgS.next {s0 : St} {b0 : Bu} {F : List (ByteArray × ByteArray)} {out : ByteArray} {size : Int} {s : St} {b : Bu} {wx : Ws} {ys : List Rs} {G : List (List ByteArray × Bool)} {done : List ByteArray} (h : MgS s0 b0 F out size s b wx ys G done) (hF : FilesOk s0 F out) {i : Nat} {y : Rs} {g : List ByteArray} (hy : ys[i]? = some y) (hg : G[i]? = some (g, false)) :
    ∃ nm C, F[i]? = some (nm, C) ∧
    (((nextN ⟨s, b, y⟩).2.2.1 = true ∧ (nextN ⟨s, b, y⟩).2.2.2 = 0 ∧ MgS s0 b0 F out size (nextN ⟨s, b, y⟩).1.s (nextN ⟨s, b, y⟩).1.b wx (ys.set i (nextN ⟨s, b, y⟩).1.x) (G.set i (g ++ [(nextN ⟨s, b, y⟩).2.1], false)) done ∧ ((nextN ⟨s, b, y⟩).2.1.size : Int) = size) ∨
    ((nextN ⟨s, b, y⟩).2.2.1 = false ∧ (nextN ⟨s, b, y⟩).2.1 = ⟨#[]⟩ ∧ (nextN ⟨s, b, y⟩).2.2.2 = 0 ∧ MgS s0 b0 F out size (nextN ⟨s, b, y⟩).1.s (nextN ⟨s, b, y⟩).1.b wx (ys.set i (nextN ⟨s, b, y⟩).1.x) (G.set i (g, true)) done) ∨
    ((nextN ⟨s, b, y⟩).2.2.1 = false ∧ (nextN ⟨s, b, y⟩).2.1 = ⟨#[]⟩ ∧ Quiet s (nextN ⟨s, b, y⟩).1.s ∧ (nextN ⟨s, b, y⟩).1.s.ok ∧ N3.inv (nextN ⟨s, b, y⟩).1 ∧ (nextN ⟨s, b, y⟩).1.s.calls ≤ s.calls + 1 ∧ (nextN ⟨s, b, y⟩).1.b = b.give 4 ∧ (nextN ⟨s, b, y⟩).1.x.opn = false ∧ (((nextN ⟨s, b, y⟩).2.2.2 = 6 ∧ ∀ L, ¬ IsFile size C L) ∨ ((nextN ⟨s, b, y⟩).2.2.2 = 5 ∧ ¬ WrPlain.Calm s)))) := by
  have hyl := (List.getElem?_eq_some_iff.1 hy).1
  obtain ⟨p, hp⟩ : ∃ p, F[i]? = some p := ⟨F[i]'(Nat.lt_of_lt_of_le hyl h.src.le), List.getElem?_eq_getElem _⟩
  obtain ⟨nm, C⟩ := p
  refine ⟨nm, C, hp, ?_⟩
  have hS := h.src.src i nm C y g false hp hy hg
  obtain ⟨_, hz, _⟩ := hF _ (List.mem_of_getElem? hp)
  have hop : y.opn = true := hS.opn
  have hz2 : C.size ≤ 3000 := hz
  obtain ⟨q1, q2, q3, q4, q5, hh⟩ := hS.next (by omega)
  have ho := h.oth.trans (oth_quiet out.data.toList q1)
  have hcl := h.calls
  have hcalm : WrPlain.Calm s0 → s0.fs.length ≤ 150 → (used s0.fs : Int) + 28 + 69 * (done.length : Nat) ≤ s0.room → WrPlain.Calm (nextN ⟨s, b, y⟩).1.s ∧ Fits ⟨(nextN ⟨s, b, y⟩).1.s, (nextN ⟨s, b, y⟩).1.b, wx⟩ (used s0.fs) := fun a1 a2 a3 => by
    obtain ⟨c1, c2⟩ := h.calm a1 a2 a3
    exact ⟨q1.calm c1.1 c1.2, Fits.other c2 q1⟩
  rcases hh with ⟨e1, e2, e3, e4⟩ | ⟨e1, e2, e3, e4, hh⟩
  · left
    have hk := callsG_set (g' := (g ++ [(nextN ⟨s, b, y⟩).2.1], false)) hg
    rw [List.length_append, List.length_singleton] at hk
    have ho2 := opn_set (y' := (nextN ⟨s, b, y⟩).1.x) hy
    have hx : (nextN ⟨s, b, y⟩).1.x.opn = true := e4.opn
    rw [hop, hx] at ho2
    refine ⟨e1, e2, ⟨h.src.turn (hF.at ho) q2 q3 hp hyl e4, WrOn.other h.wr q1 q2 q3, ho, ?_, by rw [e3]; exact h.bm, h.n0, ?_, hcalm⟩, e4.sizes _ (by simp)⟩
    · rw [e3, h.now]; omega
    · rw [List.length_set]
      simp only [Bool.false_eq_true, if_false] at hk
      omega
  · have ho2 := opn_set (y' := (nextN ⟨s, b, y⟩).1.x) hy
    rw [hop, e4] at ho2
    simp only [if_true, Bool.false_eq_true, if_false] at ho2
    rcases hh with ⟨k1, k2⟩ | hh
    · right; left
      have hk := callsG_set (g' := (g, true)) hg
      obtain ⟨g1, g2⟩ := give_now (b := b) (n := 4) (by decide)
      refine ⟨e1, e2, k1, ⟨h.src.turn (hF.at ho) q2 q3 hp hyl k2, WrOn.other h.wr q1 q2 q3, ho, ?_, by rw [e3, g2]; exact h.bm, h.n0, ?_, hcalm⟩⟩
      · rw [e3, g1, h.now]
        have hb0 := h.now
        have := h.n0
        omega
      · rw [List.length_set]
        simp only [Bool.false_eq_true, if_false, if_true] at hk
        omega
    · right; right
      exact ⟨e1, e2, q1, q2, q5, q4, e3, e4, hh⟩
end Go.Proofs.YtpmglnghnelenaaGreat
