/- In one text: MgStep, MgPlant, MgPlant2. -/
import Derived.Test.YtjplkmmhjfpdaaaGreatDoorF36
import Derived.Deep.DeepCutAuto
/- Plain facts: a merge, step by step, each with its way out. -/
namespace Go.Proofs.YtjplkmmhjfpdaaaGreatDoor
open Go.RowKit FsPlain CrcPlain OctPlain FramePlain RecPlain RdPlain RnPlain LoPlain WrPlain
set_option linter.unusedVariables false
set_option linter.unusedSimpArgs false
set_option maxRecDepth 20000
theorem MgS.size {s0 : St} {b0 : Bu} {F : List (ByteArray × ByteArray)} {out : ByteArray} {size : Int} {s : St} {b : Bu} {wx : Ws} {ys : List Rs} {G : List (List ByteArray × Bool)} {done : List ByteArray} (h : MgS s0 b0 F out size s b wx ys G done) : 1 ≤ size ∧ size ≤ 64 := by
  have h1 := h.wr.ok.z
  rw [h.wr.size] at h1
  simpa [sizeB] using h1
theorem MgS.srcs {s0 : St} {b0 : Bu} {F : List (ByteArray × ByteArray)} {out : ByteArray} {size : Int} {s : St} {b : Bu} {wx : Ws} {ys : List Rs} {G : List (List ByteArray × Bool)} {done : List ByteArray} (h : MgS s0 b0 F out size s b wx ys G done) {i : Nat} {y : Rs} {g : List ByteArray} {o : Bool} (hy : ys[i]? = some y) (hg : G[i]? = some (g, o)) : ∃ nm C, F[i]? = some (nm, C) ∧ SrcF s b size nm C y g o := by
  have hF : i < F.length := Nat.lt_of_lt_of_le (List.getElem?_eq_some_iff.1 hy).1 h.src.le
  exact ⟨F[i].1, F[i].2, List.getElem?_eq_getElem hF, h.src.src i _ _ _ _ _ (List.getElem?_eq_getElem hF) hy hg⟩
theorem MgS.ready {s0 : St} {b0 : Bu} {F : List (ByteArray × ByteArray)} {out : ByteArray} {size : Int} {s : St} {b : Bu} {wx : Ws} {ys : List Rs} {G : List (List ByteArray × Bool)} {done : List ByteArray} (h : MgS s0 b0 F out size s b wx ys G done) {i : Nat} {y : Rs} {g : List ByteArray} (hy : ys[i]? = some y) (hg : G[i]? = some (g, false)) : N3.ok ⟨s, b, y⟩ ∧ N3.inv ⟨s, b, y⟩ ∧ y.told ≤ 50000 ∧ y.opn = true := by
  obtain ⟨nm, C, _, hS⟩ := h.srcs hy hg
  rcases hS.how with ⟨_, hR⟩ | ⟨e, _⟩
  · exact ⟨hR.ok, hS.inv, hS.told, hS.opn⟩
  · cases e
theorem MgS.first {s0 : St} {b0 : Bu} {F : List (ByteArray × ByteArray)} {out : ByteArray} {size : Int} {s : St} {b : Bu} {wx : Ws} {ys : List Rs} {G : List (List ByteArray × Bool)} (h : MgS s0 b0 F out size s b wx ys G []) (hF : FilesOk s0 F out) (hl : F.length ≤ 64) {j : Nat} {y : Rs} (hy : ys[j]? = some y) (hg : G[j]? = some ([], false)) {X : N3 × ByteArray × Bool × Int} (hX : nextN ⟨s, b, y⟩ = X) :
    (X.2.2.2 = 0 ∧ MgS s0 b0 F out size X.1.s X.1.b wx (ys.set j X.1.x) (G.set j (if (!X.2.2.1) = true then [] else [X.2.1], !X.2.2.1)) [] ∧ X.2.1.size ≤ 64) ∨ (X.2.2.2 ≠ 0 ∧ MgOut s0 b0 F out size X.1.s X.1.b wx (ys.set j X.1.x) X.2.2.2) := by
  obtain ⟨nm, C, hi, hh⟩ := h.next hF hy hg
  obtain ⟨_, _, _, hyo⟩ := h.ready hy hg
  have hO := fun q hok hv hc hb ho er he => h.out_next (er := er) hF hl (Nat.zero_le _) (fun _ _ => Nat.zero_le _) hi hy hyo q hok hv hc hb ho he
  rw [hX] at hh hO
  obtain ⟨N, r, o, er⟩ := X
  simp only at hh hO ⊢
  rcases hh with ⟨h1, h2, h3, h4⟩ | ⟨h1, h2, h3, h4⟩ | ⟨h1, h2, q, hok, hv, hc, hb, ho, he⟩
  · subst h1
    left
    refine ⟨h2, by simpa using h3, ?_⟩
    have := h.size
    omega
  · subst h1 h2
    left
    exact ⟨h3, by simpa using h4, by show (0 : Nat) ≤ 64; omega⟩
  · right
    refine ⟨?_, hO q hok hv hc hb ho _ he⟩
    rcases he with ⟨e, _⟩ | ⟨e, _⟩ <;> rw [e] <;> decide
theorem MgT.few1 {u : Bool} {G : List (List ByteArray × Bool)} {T : List (List ByteArray)} {H : List Hd} {done t : List ByteArray} {i : Nat} {x : ByteArray} (h : MgT u G T H done) (p : PickM T H i t x) : done.length + 1 ≤ callsG G := by
  have hd := done_le17 h.mid
  have h2 := flat_le (A := T.set i (t ++ [x])) (B := G.map (·.1)) (by rw [List.length_set, List.length_map, h.len]; exact Nat.le_refl _) fun j a b ha hb => by
    by_cases e : j = i
    · subst e
      rw [List.getElem?_set_self (List.getElem?_eq_some_iff.1 p.t).1] at ha
      cases ha
      rw [List.getElem?_map, h.head p] at hb
      cases hb
      exact Nat.le_refl _
    · rw [List.getElem?_set_ne (Ne.symm e)] at ha
      have hj := (List.getElem?_eq_some_iff.1 ha).1
      have hH : H[j]? = some (H[j]'(by rw [h.mid.len]; exact hj)) := List.getElem?_eq_getElem _
      rw [List.getElem?_map, h.rel j a _ ha hH] at hb
      simp only [Option.map_some, Option.some.injEq] at hb
      subst hb
      split
      · exact Nat.le_refl _
      · rw [List.length_append]; omega
  have h3 := (flat_put x p.t).length_eq
  rw [List.length_append, List.length_singleton] at h3
  have := firsts_le G
  omega
theorem putEnd_le (u : Bool) (l : List ByteArray) (x : ByteArray) : (putEnd u l x).length ≤ l.length + 1 := by
  unfold putEnd
  split
  · omega
  · rw [List.length_append, List.length_singleton]; exact Nat.le_refl _
theorem MgS.put17 {u : Bool} {s0 : St} {b0 : Bu} {F : List (ByteArray × ByteArray)} {out : ByteArray} {size : Int} {s : St} {b : Bu} {wx : Ws} {ys : List Rs} {G : List (List ByteArray × Bool)} {done : List ByteArray} (h : MgS s0 b0 F out size s b wx ys G done) (hF : FilesOk s0 F out) (hl : F.length ≤ 64) {T : List (List ByteArray)} {H : List Hd} {i : Nat} {t : List ByteArray} {x : ByteArray} (ht : MgT u G T H done) (p : PickM T H i t x) {X : M3 × Int} (hX : putM ⟨s, b, wx⟩ x = X) :
    (X.2 = 0 ∧ MgS s0 b0 F out size X.1.s X.1.b X.1.x ys G (done ++ [x])) ∨ (X.2 ≠ 0 ∧ MgOut s0 b0 F out size X.1.s X.1.b X.1.x ys X.2) := by
  have hG := ht.head p
  have hy : ys[i]? = some (ys[i]'(by rw [h.src.len]; exact (List.getElem?_eq_some_iff.1 hG).1)) := List.getElem?_eq_getElem _
  obtain ⟨nm, C, _, hS⟩ := h.srcs hy hG
  have hz := hS.sizes x (by simp)
  have hc := putM_calls ⟨s, b, wx⟩ x
  have hk := h.put hF hz
  rw [hX] at hk hc
  have hzs : ∀ p ∈ F, p.2.size ≤ 5000 := fun q hq => (hF q hq).2.1
  rcases hk with h1 | ⟨he, hg, hx⟩
  · exact .inl h1
  · refine .inr ⟨by rcases he with e | e <;> rw [e] <;> decide, h.out_put hF hl ht.few (n := done.length + 1) he hg ?_ (fun Ls hL => (ht.lens h.src hzs hL).2 p.b) ?_⟩
    · have : X.1.s.calls ≤ s.calls + 1 := by
        have := hc
        omega
      omega
    · intro k
      exact hx ⟨k.1, k.2.1, by have := k.2.2; omega⟩
theorem MgS.read17 {u : Bool} {s0 : St} {b0 : Bu} {F : List (ByteArray × ByteArray)} {out : ByteArray} {size : Int} {s : St} {b : Bu} {wx : Ws} {ys : List Rs} {G : List (List ByteArray × Bool)} {done dn : List ByteArray} {T : List (List ByteArray)} {H : List Hd} {i : Nat} {t : List ByteArray} {x : ByteArray} {y : Rs} (ht : MgT u G T H done) (p : PickM T H i t x) (hd : dn = putEnd u done x) (h : MgS s0 b0 F out size s b wx ys G dn) (hF : FilesOk s0 F out) (hl : F.length ≤ 64) (hy : ys[i]? = some y) {X : N3 × ByteArray × Bool × Int} (hX : nextN ⟨s, b, y⟩ = X) :
    (X.2.2.2 = 0 ∧ (X.2.2.1 && ltT X.2.1 x) = false ∧ X.2.1.size ≤ 64 ∧ ∃ G', MgS s0 b0 F out size X.1.s X.1.b wx (ys.set i X.1.x) G' dn ∧ MgT u G' (T.set i (t ++ [x])) (nextL H X.2.1 (!X.2.2.1)) dn ∧ callsG G' = callsG G + 1) ∨
    ((X.2.2.1 && ltT X.2.1 x) = true ∧ MgOut s0 b0 F out size X.1.s X.1.b wx (ys.set i X.1.x) 13) ∨
    (X.2.2.1 = false ∧ X.2.2.2 ≠ 0 ∧ MgOut s0 b0 F out size X.1.s X.1.b wx (ys.set i X.1.x) X.2.2.2) := by
  have hG := ht.head p
  have hzs : ∀ p ∈ F, p.2.size ≤ 5000 := fun q hq => (hF q hq).2.1
  have hdl : dn.length ≤ callsG G := by rw [hd]; exact Nat.le_trans (putEnd_le _ _ _) (ht.few1 p)
  have hdL : ∀ Ls, FilesAre size F Ls → dn.length ≤ Ls.flatten.length := fun Ls hL => by rw [hd]; exact Nat.le_trans (putEnd_le _ _ _) ((ht.lens (by exact h.src) hzs hL).2 p.b)
  obtain ⟨nm, C, hi, hh⟩ := h.next hF hy hG
  obtain ⟨_, _, _, hyo⟩ := h.ready hy hG
  have hO := fun q hok hv hc hb ho er he => h.out_next (er := er) hF hl hdl hdL hi hy hyo q hok hv hc hb ho he
  rw [hX] at hh hO
  obtain ⟨N, r, o, er⟩ := X
  simp only at hh hO ⊢
  have hcs := fun g' => callsG_set (g' := g') hG
  have hGl := (List.getElem?_eq_some_iff.1 hG).1
  rcases hh with ⟨h1, h2, h3, h4⟩ | ⟨h1, h2, h3, h4⟩ | ⟨h1, h2, q, hok, hv, hc, hb, ho, he⟩
  · subst h1
    have hr : r.size ≤ 64 := by have := h.size; omega
    have hc1 : callsG (G.set i (t ++ [x] ++ [r], false)) = callsG G + 1 := by
      have := hcs (t ++ [x] ++ [r], false)
      simp only [List.length_append, List.length_singleton, Bool.false_eq_true, if_false] at this
      omega
    cases hlt : ltT r x
    · left
      refine ⟨h2, by simp, hr, _, h3, ?_, hc1⟩
      have hle : leT x r = true := le_iff.2 hlt
      have := ht.next p r false (fun _ => hle)
      rw [← hd] at this
      simpa using this
    · right; left
      refine ⟨rfl, MgS.out_order (t := t) (x := x) (z := r) (o := false) h3 hF hl (by rw [hc1]; omega) hdL (i := i) ?_ hlt⟩
      rw [List.getElem?_set_self hGl]
      simp
  · subst h1 h2
    left
    have hc1 : callsG (G.set i (t ++ [x], true)) = callsG G + 1 := by
      have := hcs (t ++ [x], true)
      simp only [List.length_append, List.length_singleton, Bool.false_eq_true, if_false, if_true] at this
      omega
    refine ⟨h3, by simp, by show (0 : Nat) ≤ 64; omega, _, h4, ?_, hc1⟩
    have := ht.next p ⟨#[]⟩ true (fun k => by cases k)
    rw [← hd] at this
    simpa using this
  · right; right
    refine ⟨h1, ?_, hO q hok hv hc hb ho _ he⟩
    rcases he with ⟨e, _⟩ | ⟨e, _⟩ <;> rw [e] <;> decide
structure Way (s0 : St) (b0 : Bu) (F : List (ByteArray × ByteArray)) (out : ByteArray) (size : Int) (u : Bool) (s : St) (b : Bu) (wx : Ws) (ys : List Rs) (k c er : Int) : Prop where
  bok : b.ok
  inv : ∀ y ∈ ys, N3.inv ⟨s, b, y⟩
  now : 4 * (opnN ys : Int) ≤ b.now
  fin : ∀ b1, Left b b1 (opnN ys) → MergeR s0 b0 F out size u (dropM ⟨s, b1, wx⟩).s (dropM ⟨s, b1, wx⟩).b k c er
theorem MgOut.way {s0 : St} {b0 : Bu} {F : List (ByteArray × ByteArray)} {out : ByteArray} {size : Int} {s : St} {b : Bu} {wx : Ws} {ys : List Rs} {er : Int} (u : Bool) (h : MgOut s0 b0 F out size s b wx ys er) : Way s0 b0 F out size u s b wx ys 0 0 er :=
  ⟨h.bok, h.inv, by have h1 := h.now; have h2 := h.n0; split at h1 <;> omega, fun _ hL => h.end u hL⟩
theorem ok_closeM17 {m : M3} (h : m.ok) : (closeM m).1.ok := by
  have h1 : (flushM m).1.ok := by
    unfold flushM
    split
    · exact h
    · exact ok_layM h _
  have h2 : (endM (flushM m).1).1.ok := ok_layM h1 _
  have h3 : (syncM (endM (flushM m).1).1).1.ok := ⟨ok_sync h2.s _, h2.b, h2.n1, h2.n2, h2.z, h2.wl, h2.wz, h2.az⟩
  unfold closeM
  split
  · exact h
  · split
    · exact h1
    · split
      · exact ok_dropM h2
      · exact ok_dropM h3
theorem opn_zero : ∀ {ys : List Rs}, (∀ y ∈ ys, y.opn = false) → opnN ys = 0
  | [], _ => rfl
  | y :: ys, h => by
    have h1 := opn_zero (ys := ys) fun z hz => h z (by simp [hz])
    unfold opnN at h1 ⊢
    rw [List.filter_cons, h y (by simp)]
    simpa using h1
theorem callsG_sum : ∀ {G : List (List ByteArray × Bool)} {F : List (ByteArray × ByteArray)}, G.length ≤ F.length → (∀ (i : Nat) (g : List ByteArray × Bool) (p : ByteArray × ByteArray), G[i]? = some g → F[i]? = some p → g.1.length ≤ p.2.size) → callsG G ≤ (F.map fun p => p.2.size).sum + G.length
  | [], _, _, _ => Nat.zero_le _
  | g :: G, [], h, _ => by simp at h
  | g :: G, p :: F, h, k => by
    have h1 := k 0 g p rfl rfl
    have h2 := callsG_sum (G := G) (F := F) (by simpa using h) fun i x y hx hy => k (i + 1) x y (by simpa using hx) (by simpa using hy)
    unfold callsG at h2 ⊢
    simp only [List.map_cons, List.sum_cons, List.length_cons]
    split <;> omega
theorem Srcs.few17 {s : St} {b : Bu} {size : Int} {F : List (ByteArray × ByteArray)} {ys : List Rs} {G : List (List ByteArray × Bool)} (h : Srcs s b size F ys G) (hs : (F.map fun p => p.2.size).sum ≤ 90000) (hl : F.length ≤ 64) : callsG G ≤ 90064 := by
  have h1 := callsG_sum (G := G) (F := F) (by rw [← h.len]; exact h.le) fun i g p hg hp => by
    have hi := (List.getElem?_eq_some_iff.1 hg).1
    have hy : i < ys.length := by rw [h.len]; exact hi
    rcases (h.src i p.1 p.2 _ g.1 g.2 hp (List.getElem?_eq_getElem hy) hg).how with ⟨_, k⟩ | ⟨_, _, _, k⟩
    · exact Nat.le_trans (Nat.le_add_right _ 11) k.few
    · exact file_few k
  have h2 := h.le
  have h3 := h.len
  omega
theorem MgS.close17 {u : Bool} {s0 : St} {b0 : Bu} {F : List (ByteArray × ByteArray)} {out : ByteArray} {size : Int} {s : St} {b : Bu} {wx : Ws} {ys : List Rs} {G : List (List ByteArray × Bool)} {done : List ByteArray} {T : List (List ByteArray)} {H : List Hd} (h : MgS s0 b0 F out size s b wx ys G done) (hF : FilesOk s0 F out) (hl : F.length ≤ 64) (hsum : (F.map fun p => p.2.size).sum ≤ 90000) (hn : ys.length = F.length) (ht : MgT u G T H done) (hb : leastB H = false) {X : M3 × Int} (hX : closeM ⟨s, b, wx⟩ = X) :
    ∃ k c, closeV ⟨s, b, wx⟩ X.2 = .tuple #[.agg #[.int .i64 k, .int .u32 c], .int .i64 X.2] ∧ Way s0 b0 F out size u X.1.s X.1.b X.1.x ys k c X.2 := by
  have hzs : ∀ p ∈ F, p.2.size ≤ 5000 := fun q hq => (hF q hq).2.1
  have hcg := h.src.few17 hsum hl
  have hfew := ht.few
  have hok' := ok_closeM17 h.wr.ok
  have hcc := (closeM_calls ⟨s, b, wx⟩).1
  have hcs := h.calls17 hF hl hfew
  have hnow := h.now
  have hn0 := h.n0
  have hlast := fun h1 h2 h3 => close_fits (m := ⟨s, b, wx⟩) h.wr h1 h2 h3 (U := used s0.fs)
  have hcf := close_f h.wr (by omega) hok'
  rw [hX] at hcf hok' hcc hlast
  obtain ⟨g1, g2⟩ := give_now (b := b) (n := 4) (by decide)
  refine ⟨_, _, rfl, ?_⟩
  rcases hcf with ⟨h0, hD⟩ | hG
  · have hbX : X.1.b = b.give 4 := hD.bud
    have hso : X.1.x.opn = false := hD.opn
    have hall : ∀ y ∈ ys, y.opn = false := fun y hy => by
      obtain ⟨i, hi, rfl⟩ := List.mem_iff_getElem.1 hy
      have hiG : i < G.length := by rw [← h.src.len]; exact hi
      have hiT : i < T.length := by rw [← ht.len]; exact hiG
      have hiH : i < H.length := by rw [ht.mid.len]; exact hiT
      obtain ⟨m1, _, _⟩ := ht.mid.end hb
      have hz := m1 i _ (List.getElem?_eq_getElem hiH)
      have hG := ht.rel i _ _ (List.getElem?_eq_getElem hiT) (List.getElem?_eq_getElem hiH)
      rw [hz] at hG
      obtain ⟨_, _, _, hS⟩ := h.srcs (List.getElem?_eq_getElem hi) hG
      exact hS.opn
    have hon := opn_zero hall
    refine ⟨by rw [hbX]; exact Bu.give_ok h.wr.ok.b 4, srcs_inv h.src _ _, by rw [hon, hbX, g1]; omega, fun b1 hL => ?_⟩
    have hLn := hL.now
    have hLm := hL.m
    rw [hon] at hLn hnow
    have e : dropM ⟨X.1.s, b1, X.1.x⟩ = ⟨X.1.s, b1, X.1.x⟩ := by unfold dropM; rw [if_neg (by show ¬ X.1.x.opn = true; rw [hso]; decide)]
    rw [e, h0, if_pos rfl, if_pos rfl]
    have hal : wx.all = done := h.wr.all
    show MergeR s0 b0 F out size u X.1.s b1 (wx.all.length : Nat) (sumN wx.all : Nat) 0
    rw [hal]
    refine mg_ok h hF hn ht hb hD hcc (by rw [hX]) hl (by omega) (by omega) ?_ ?_
    · rw [hLn, hbX, g1]; omega
    · rw [hLm, hbX, g2]; exact h.bm
  · have hne : X.2 ≠ 0 := by rcases hG.code with e | e <;> rw [e] <;> decide
    rw [if_neg hne, if_neg hne]
    refine (h.out_put hF hl hfew (n := done.length) hG.code hG hcc (fun Ls hL => (ht.lens h.src hzs hL).1) ?_).way u
    rintro ⟨a1, a2, a3⟩
    obtain ⟨c1, c2⟩ := h.calm a1 a2 a3
    have hrm : s.room = s0.room := h.oth.room
    exact hne (hlast c1 c2 (by show (_ : Int) ≤ s.room; rw [hrm]; omega)).1
end Go.Proofs.YtjplkmmhjfpdaaaGreatDoor
/- The program's plant: a tree of the first records. -/
namespace Go.Proofs.YtjplkmmhjfpdaaaGreatDoor
open Go.RowKit FsPlain CrcPlain OctPlain FramePlain RecPlain RdPlain RnPlain LoPlain WrPlain
set_option linter.unusedVariables false
set_option linter.unusedSimpArgs false
set_option maxRecDepth 20000
theorem PlH.done {n : Nat} {G : List (List ByteArray × Bool)} {H : List Hd} (h : PlH n n G H) (u : Bool) : MgT u G (List.replicate H.length []) H [] :=
  mgT_start u (by rw [h.glen, h.len]) fun i z hz => h.old i z (by rw [← h.len]; exact (List.getElem?_eq_some_iff.1 hz).1) hz
def Two17 (W : World) (n : Nat) (a b : Value) (wx : World) : Prop :=
  ∃ p q, a = .slice (some ⟨p, 0, none⟩) n n ∧ b = .slice (some ⟨q, 0, none⟩) n n ∧ Gr W wx ∧ wx.heap[p]? = some (.cells (Array.replicate n (.string ⟨#[]⟩)) 9 (0, 0)) ∧ wx.heap[q]? = some (.cells (Array.replicate n (.bool false)) 4 (0, 0)) ∧ W.heap.size ≤ p ∧ W.heap.size ≤ q ∧ p ≠ q
theorem gral17 (w : World) (o : Obj) : Gr w (w.alloc o) := Below.alloc (Below.refl _ _) (Nat.le_refl _) _
theorem heap_alloc_old (w : World) (o : Obj) {p : Nat} (h : p < w.heap.size) : (w.alloc o).heap[p]? = w.heap[p]? := (gral17 w o).block p h
theorem two_one (W : World) (n : Nat) : Two17 W n (.slice (some ⟨W.heap.size, 0, none⟩) n n) (.slice (some ⟨W.heap.size + 1, 0, none⟩) n n) ((W.alloc (.cells (Array.replicate n (.string ⟨#[]⟩)) 9)).alloc (.cells (Array.replicate n (.bool false)) 4)).drew := by
  refine ⟨_, _, rfl, rfl, Below.drew ((gral17 _ _).trans (gral17 _ _)), ?_, ?_, Nat.le_refl _, Nat.le_succ _, Nat.ne_of_lt (Nat.lt_succ_self _)⟩
  · show ((W.alloc _).alloc _).heap[W.heap.size]? = _
    rw [heap_alloc_old _ _ (by rw [World.size_alloc]; omega)]
    exact heap_alloc_new W _
  · show ((W.alloc _).alloc _).heap[W.heap.size + 1]? = _
    have := heap_alloc_new (W.alloc (.cells (Array.replicate n (.string ⟨#[]⟩)) 9)) (.cells (Array.replicate n (.bool false)) 4)
    rwa [World.size_alloc] at this
theorem two_two (W : World) (n : Nat) : Two17 W n (.slice (some ⟨W.heap.size + 1, 0, none⟩) n n) (.slice (some ⟨W.heap.size, 0, none⟩) n n) ((W.alloc (.cells (Array.replicate n (.bool false)) 4)).alloc (.cells (Array.replicate n (.string ⟨#[]⟩)) 9)).drew := by
  refine ⟨_, _, rfl, rfl, Below.drew ((gral17 _ _).trans (gral17 _ _)), ?_, ?_, Nat.le_succ _, Nat.le_refl _, fun e => Nat.ne_of_lt (Nat.lt_succ_self _) e.symm⟩
  · show ((W.alloc _).alloc _).heap[W.heap.size + 1]? = _
    have := heap_alloc_new (W.alloc (.cells (Array.replicate n (.bool false)) 4)) (.cells (Array.replicate n (.string ⟨#[]⟩)) 9)
    rwa [World.size_alloc] at this
  · show ((W.alloc _).alloc _).heap[W.heap.size]? = _
    rw [heap_alloc_old _ _ (by rw [World.size_alloc]; omega)]
    exact heap_alloc_new W _
theorem rep_texts (n : Nat) : Array.replicate n (Value.string ⟨#[]⟩) = texts17 (List.replicate n ⟨⟨#[]⟩, false⟩) := by unfold texts17; rw [List.map_replicate, ← List.toArray_replicate]
theorem rep_overs (n : Nat) : Array.replicate n (Value.bool false) = overs17 (List.replicate n ⟨⟨#[]⟩, false⟩) := by unfold overs17; rw [List.map_replicate, ← List.toArray_replicate]
theorem make_str (n : Nat) (hn : n ≤ 1000000) (u : World) : (Instr.makeSlice 22 (.int .i64 (n : Int)) (.int .i64 (n : Int))).run Tryz.prog u = .ok (.slice (some ⟨u.heap.size, 0, none⟩) n n) (u.alloc (.cells (Array.replicate n (.string ⟨#[]⟩)) 9)) := by
  obtain ⟨i, hi, h⟩ : ∃ i, Tryz.prog.info? 9 = some i ∧ (i.zero, i.size, i.bytes) = (some (.string ⟨#[]⟩), 1, 16) := by
    have := infoS
    rw [Option.map_eq_some_iff] at this
    obtain ⟨i, h1, h2⟩ := this
    exact ⟨i, h1, h2⟩
  simp only [Prod.mk.injEq] at h
  have := run_make (P := Tryz.prog) u 22 9 i (.string ⟨#[]⟩) Tryz.underlying22 hi h.1 .i64 .i64 (n : Int) (n : Int) (by omega) (Int.le_refl _) (by rw [h.2.2]; omega) (by omega)
  rw [this, h.2.1]
  simp only [Int.toNat_natCast, Nat.mul_one]
  congr 3
  exact Array.ext (by simp [madeCells, Value.cells]) fun j h1 h2 => by simp [madeCells, Value.cells, Nat.mod_one]
theorem make_bool (n : Nat) (hn : n ≤ 1000000) (u : World) : (Instr.makeSlice 202 (.int .i64 (n : Int)) (.int .i64 (n : Int))).run Tryz.prog u = .ok (.slice (some ⟨u.heap.size, 0, none⟩) n n) (u.alloc (.cells (Array.replicate n (.bool false)) 4)) := by
  obtain ⟨i, hi, h⟩ : ∃ i, Tryz.prog.info? 4 = some i ∧ (i.zero, i.size, i.bytes) = (some (.bool false), 1, 1) := by
    have := infoBo
    rw [Option.map_eq_some_iff] at this
    obtain ⟨i, h1, h2⟩ := this
    exact ⟨i, h1, h2⟩
  simp only [Prod.mk.injEq] at h
  have := run_make (P := Tryz.prog) u 202 4 i (.bool false) Tryz.underlying202 hi h.1 .i64 .i64 (n : Int) (n : Int) (by omega) (Int.le_refl _) (by rw [h.2.2]; omega) (by omega)
  rw [this, h.2.1]
  simp only [Int.toNat_natCast, Nat.mul_one]
  congr 3
  exact Array.ext (by simp [madeCells, Value.cells]) fun j h1 h2 => by simp [madeCells, Value.cells, Nat.mod_one]
theorem ltT_nil (r : ByteArray) : ltT r ⟨#[]⟩ = false := by
  have e : (⟨#[]⟩ : ByteArray).toList = [] := by first | rfl | decide | simp
  unfold ltT
  rw [e]
  cases r.toList <;> rfl
theorem Two17.parts {W wx : World} {n : Nat} {a b : Value} (h : Two17 W n a b wx) {L : List Asn} {B : Nat → Prop} (hL : Frs L) (hs : stars L W B) : ∃ g1 g2 B', a = .slice (some ⟨g1, 0, none⟩) n n ∧ b = .slice (some ⟨g2, 0, none⟩) n n ∧ stars (Blk g1 (texts17 (List.replicate n ⟨⟨#[]⟩, false⟩)) 9 :: Blk g2 (overs17 (List.replicate n ⟨⟨#[]⟩, false⟩)) 4 :: L) wx B' ∧ Nx B W B' wx := by
  obtain ⟨p, q, ha, hb, g, h1, h2, l1, l2, hne⟩ := h
  rw [rep_texts] at h1
  rw [rep_overs] at h2
  obtain ⟨B', k, n⟩ := part_new (P := stars [Blk p (texts17 (List.replicate n ⟨⟨#[]⟩, false⟩)) 9, Blk q (overs17 (List.replicate n ⟨⟨#[]⟩, false⟩)) 4]) (B' := fun b => b = p ∨ b = q) hL hs g ⟨fun b => b = p, fun b => b = q, ⟨h1, fun _ => Iff.rfl⟩, stars_one ⟨h2, fun _ => Iff.rfl⟩, fun b e1 e2 => hne (e1.symm.trans e2), fun b => Iff.rfl⟩ (fun b hb => by rcases hb with rfl | rfl; exact l1; exact l2)
  exact ⟨p, q, B', ha, hb, stars_app (L := [_, _]).2 k, n⟩
def PlantGot (D P : Nat) (s0 : St) (b0 : Bu) (F : List (ByteArray × ByteArray)) (out : ByteArray) (size : Int) (wx : Ws) (xs : List Nat) (M : List Asn) (w : World) (B : Nat → Prop) (e : Ending) (w' : World) : Prop :=
  (∃ p s b rs G H B', e = .returned (.tuple #[.pointer (some ⟨p, 0, none⟩), .int .i64 0]) ∧ rs.map (·.1) = xs ∧ MgS s0 b0 F out size s b wx (rs.map (·.2)) G [] ∧ (∀ u, MgT u G (List.replicate H.length []) H []) ∧ H.length = xs.length ∧ stars (rdsA D P rs ++ ([DiskA D s, BuA P b] ++ (LoA p H :: M))) w' B' ∧ Nx B w B' w') ∨
  (∃ er s b rs B', e = .returned (.tuple #[.pointer none, .int .i64 er]) ∧ rs.map (·.1) = xs ∧ MgOut s0 b0 F out size s b wx (rs.map (·.2)) er ∧ stars (rdsA D P rs ++ ([DiskA D s, BuA P b] ++ M)) w' B' ∧ Nx B w B' w')
def PlAt (D P : Nat) (s0 : St) (b0 : Bu) (F : List (ByteArray × ByteArray)) (out : ByteArray) (size : Int) (wx : Ws) (xs : List Nat) (n g1 g2 : Nat) (M : List Asn) (w : World) (B : Nat → Prop) (v : Value) (wr : World) : Prop :=
  ∃ (j : Nat) (s : St) (b : Bu) (rs : List (Nat × Rs)) (G : List (List ByteArray × Bool)) (H : List Hd) (B' : Nat → Prop), j ≤ n ∧ v = .int .i64 (j : Int) ∧ rs.map (·.1) = xs ∧ MgS s0 b0 F out size s b wx (rs.map (·.2)) G [] ∧ PlH n j G H ∧ stars (rdsA D P rs ++ ([DiskA D s, BuA P b] ++ (Blk g1 (texts17 H) 9 :: Blk g2 (overs17 H) 4 :: M))) wr B' ∧ Nx B w B' wr
theorem perm_in2 (R K M : List Asn) (a b : Asn) : (R ++ (K ++ (a :: b :: M))).Perm (a :: b :: (R ++ (K ++ M))) :=
  (perm_in R K (b :: M) a).trans ((perm_in R K M b).cons a)
theorem two_set17 {R K M : List Asn} {g1 g2 : Nat} {c1 c2 : Array Value} {T1 T2 : TypeId} {w : World} {B : Nat → Prop} (hF : Frs (R ++ (K ++ M))) (h : stars (R ++ (K ++ (Blk g1 c1 T1 :: Blk g2 c2 T2 :: M))) w B) (j : Nat) (x y : Value) : ∃ B', stars (R ++ (K ++ (Blk g1 (c1.setIfInBounds j x) T1 :: Blk g2 (c2.setIfInBounds j y) T2 :: M))) ((w.setCell ⟨g1, j, none⟩ x).setCell ⟨g2, j, none⟩ y) B' ∧ Nx B w B' ((w.setCell ⟨g1, j, none⟩ x).setCell ⟨g2, j, none⟩ y) := by
  have h1 := stars_perm (perm_in2 R K M _ _) h
  obtain ⟨B1, k1, n1⟩ := step_at (L := Blk g1 c1 T1 :: Blk g2 c2 T2 :: (R ++ (K ++ M))) (Q := Blk g1 (c1.setIfInBounds j x) T1) 0 rfl ⟨fr_blk _ _ _, fr_blk _ _ _, hF⟩ h1 fun B1 q => blk_next q x
  obtain ⟨B2, k2, n2⟩ := step_at (L := Blk g1 (c1.setIfInBounds j x) T1 :: Blk g2 c2 T2 :: (R ++ (K ++ M))) (Q := Blk g2 (c2.setIfInBounds j y) T2) 1 rfl ⟨fr_blk _ _ _, fr_blk _ _ _, hF⟩ k1 fun B1 q => blk_next q y
  exact ⟨B2, stars_perm (perm_in2 R K M _ _).symm k2, n1.trans n2⟩
theorem plant_next {D P : Nat} {s0 : St} {b0 : Bu} {F : List (ByteArray × ByteArray)} {out : ByteArray} {size : Int} {wx : Ws} {s : St} {b : Bu} {rs : List (Nat × Rs)} {G : List (List ByteArray × Bool)} {M : List Asn} {w : World} {B : Nat → Prop} {j x : Nat} {y : Rs} (hF : FilesOk s0 F out) (hl : F.length ≤ 64) (hc : s0.calls ≤ 10000000000) (hS : MgS s0 b0 F out size s b wx (rs.map (·.2)) G []) (hr : rs[j]? = some (x, y)) (hy : (rs.map (·.2))[j]? = some y) (hg : G[j]? = some ([], false)) (hM : Frs M) (h : stars (rdsA D P rs ++ ([DiskA D s, BuA P b] ++ M)) w B) {X : N3 × ByteArray × Bool × Int} (hX : nextN ⟨s, b, y⟩ = X) (u : World) (g : Gr w u) :
    Calls Tryz.prog 149 #[srcV x, .string ⟨#[]⟩] u fun e w' => e = .returned (.tuple #[.string X.2.1, .bool X.2.2.1, .int .i64 X.2.2.2]) ∧ ∃ B', stars (rdsA D P (rs.set j (x, X.1.x)) ++ ([DiskA D X.1.s, BuA P X.1.b] ++ M)) w' B' ∧ Nx B w B' w' := by
  obtain ⟨hok, hinv, htold, _⟩ := hS.ready hy hg
  have hcs := hS.calls17 hF hl (Nat.zero_le _)
  have C := mnext_c ⟨#[]⟩ hr hok hinv htold (by omega) hM (stars_gr (frs_all17 D P rs s b hM) h g)
  rw [hX] at C
  have e : ansM ⟨#[]⟩ X.2 = ansV X.2 := if_neg (by rw [ltT_nil, Bool.and_false]; decide)
  rw [e] at C
  refine C.mono ?_
  rintro e w' ⟨he, B', h', n'⟩
  exact ⟨he, B', h', (Nx.gr g).trans n'⟩
end Go.Proofs.YtjplkmmhjfpdaaaGreatDoor
/- The program's plant, walked. -/
namespace Go.Proofs.YtjplkmmhjfpdaaaGreatDoor
open Go.RowKit FsPlain CrcPlain OctPlain FramePlain RecPlain RdPlain RnPlain LoPlain WrPlain
set_option linter.unusedVariables false
set_option linter.unusedSimpArgs false
set_option maxRecDepth 20000
theorem lies_ptr {w : World} {a : Option Addr} {n c : Nat} {l : List Value} (h : LiesV w (.slice a n c) l) {j : Nat} {r : Value} (hr : l[j]? = some r) : ∃ b off, a = some ⟨b, off, none⟩ ∧ w.cell? ⟨b, off + j, none⟩ = some r ∧ b < w.heap.size := by
  obtain ⟨a', c', e, _, hrow⟩ := h
  simp only [Value.slice.injEq] at e
  obtain ⟨rfl, -, rfl⟩ := e
  rcases hrow with h0 | ⟨b, off, e, hrw⟩
  · rw [h0] at hr; simp at hr
  · exact ⟨b, off, e, hrw.2 j r hr, hrw.1⟩
set_option maxHeartbeats 4000000 in
theorem plant17_c {D P : Nat} {s0 : St} {b0 : Bu} {F : List (ByteArray × ByteArray)} {out : ByteArray} {size : Int} {s : St} {b : Bu} {wx : Ws} {rs : List (Nat × Rs)} {xs : List Nat} (hxs : rs.map (·.1) = xs) (hF : FilesOk s0 F out) (hl : F.length ≤ 64) (hc : s0.calls ≤ 10000000000) (hS : MgS s0 b0 F out size s b wx (rs.map (·.2)) (List.replicate xs.length ([], false)) []) {v : Value} {w : World} {B : Nat → Prop} {M : List Asn} (hM : Frs M) (hv : ∀ (wr : World) (B' : Nat → Prop), stars M wr B' → LiesV wr v (ptrs17 xs)) (h : stars (rdsA D P rs ++ ([DiskA D s, BuA P b] ++ M)) w B) :
    Calls Tryz.prog 146 #[v] w (PlantGot D P s0 b0 F out size wx xs M w B) := by
  obtain ⟨n, hn⟩ : ∃ n, xs.length = n := ⟨_, rfl⟩
  have hpl : (ptrs17 xs).length = n := by unfold ptrs17; rw [List.length_map, hn]
  have sh : ∃ a c, v = .slice a n c := by
    obtain ⟨B2, h2⟩ := rest17 h
    obtain ⟨a, c, e, _⟩ := hv w B2 h2
    rw [hpl] at e
    exact ⟨a, c, e⟩
  obtain ⟨va, vc, rfl⟩ := sh
  have hrl : rs.length = n := by rw [← hn, ← hxs, List.length_map]
  have hn64 : n ≤ 64 := by have := hS.src.le; rw [List.length_map] at this; omega
  rw [hn] at hS
  have HV := Lib.hid hv
  have HF := Lib.hid hF
  have HL := Lib.hid hl
  have HC := Lib.hid hc
  have HS := Lib.hid hS
  have HX := Lib.hid hxs
  have HM := Lib.hid hM
  have HH := Lib.hid h
  have HN := Lib.hid (show xs.length = n ∧ (ptrs17 xs).length = n ∧ n ≤ 64 ∧ rs.length = n from ⟨hn, hpl, hn64, hrl⟩)
  have hmk1 : ∀ u : World, (Instr.makeSlice 22 (.int .i64 (n : Int)) (.int .i64 (n : Int))).run Tryz.prog u = .ok (.slice (some ⟨u.heap.size, 0, none⟩) n n) (u.alloc (.cells (Array.replicate n (.string ⟨#[]⟩)) 9)) := make_str n (by omega)
  have hmk2 : ∀ u : World, (Instr.makeSlice 202 (.int .i64 (n : Int)) (.int .i64 (n : Int))).run Tryz.prog u = .ok (.slice (some ⟨u.heap.size, 0, none⟩) n n) (u.alloc (.cells (Array.replicate n (.bool false)) 4)) := make_bool n (by omega)
  clear hv hF hl hc hS hxs hM h hn hpl hn64 hrl
  go_enter Tryz.func146, Tryz.ntmps146
  go_wp2_with fail
  go_upto_region 1 with (fail)
  go_cut [4, 5] (fun a b wx => Two17 w n a b wx)
  case first =>
    go_region
    all_goals
      go_wp2_with fail
      go_meet
      first | exact two_one _ _ | exact two_two _ _
  clear hmk1 hmk2
  obtain ⟨g1, g2, B1, rfl, rfl, k1, n1⟩ := Two17.parts hcut (frs_all17 D P rs s b HM.out) HH.out
  have START := Lib.hid (show PlAt D P s0 b0 F out size wx xs n g1 g2 M w B (.int .i64 0) wc from ⟨0, s, b, rs, _, _, B1, Nat.zero_le _, rfl, HX.out, HS.out, plH_start n, stars_perm (perm_in2 _ _ _ _ _).symm k1, n1⟩)
  clear hcut k1 n1 HH HS
  go_wp2_with fail
  go_loopw [19] (fun v wr => PlAt D P s0 b0 F out size wx xs n g1 g2 M w B v wr) (fun v _ => n - (intOf v).toNat)
  case atStart => exact START.out
  case round =>
    obtain ⟨j, s1, b1, rs1, G, H, B', hj, rfl, hx, hS, hP, hst, nx⟩ := hrel
    have hrl : rs1.length = n := by rw [← HN.out.1, ← hx, List.length_map]
    have FB : Frs (Blk g1 (texts17 H) 9 :: Blk g2 (overs17 H) 4 :: M) := ⟨fr_blk _ _ _, fr_blk _ _ _, HM.out⟩
    by_cases hlt : j < n
    · obtain ⟨x, y, hr, hxx, hy⟩ := rs_at hx (i := j) (by omega)
      obtain ⟨⟨N, r, o, er⟩, hX⟩ : ∃ X, nextN ⟨s1, b1, y⟩ = X := ⟨_, rfl⟩
      have C := Lib.hid (plant_next (u := wr.alloc (.cells #[.pointer (some ⟨x, 0, none⟩)] 157)) HF.out HL.out HC.out hS hr hy (hP.new j (Nat.le_refl _) hlt) FB hst hX (gral17 _ _))
      have K := hS.first HF.out HL.out hy (hP.new j (Nat.le_refl _) hlt) hX
      simp only at C K
      obtain ⟨bq, off, rfl, hcell, hbq⟩ : ∃ b off, va = some ⟨b, off, none⟩ ∧ wr.cell? ⟨b, off + j, none⟩ = some (.pointer (some ⟨x, 0, none⟩)) ∧ b < wr.heap.size := by
        obtain ⟨B2, h2⟩ := rest17 hst
        obtain ⟨B3, h3⟩ := tail17 h2
        obtain ⟨B4, h4⟩ := tail17 h3
        exact lies_ptr (HV.out wr B4 h4) (ptrs_at hxx)
      have HZ : ∃ z, H[j]? = some z := ⟨_, List.getElem?_eq_getElem (by rw [hP.len]; exact hlt)⟩
      obtain ⟨z, hz⟩ := HZ
      have CT := Lib.hid (show (texts17 H)[j]? = some (.string z.s) ∧ (overs17 H)[j]? = some (.bool z.o) by
        unfold texts17 overs17
        rw [List.getElem?_toArray, List.getElem?_toArray, List.getElem?_map, List.getElem?_map, hz]
        exact ⟨rfl, rfl⟩)
      have REL := Lib.hid (show rs1.map (·.1) = xs ∧ PlH n j G H ∧ rs1[j]? = some (x, y) ∧ Nx B w B' wr from ⟨hx, hP, hr, nx⟩)
      have FR := Lib.hid (frs_all17 D P (rs1.set j (x, N.x)) N.s N.b HM.out)
      clear hx hS hP hst nx hr hy hxx hX START hrl FB hz
      rcases K with ⟨rfl, k1, k2⟩ | ⟨k1, k2⟩
      · have KA := Lib.hid (show _ ∧ _ from ⟨k1, k2⟩)
        have hj64 : (j : Int) ≤ 64 := by have := HN.out.2.2.1; omega
        clear k1 k2
        go_wp2_with fail
        refine C.out.mono ?_; rintro e u2 ⟨rfl, B2, h2, n2⟩
        obtain ⟨B3, hb1, _⟩ := part_at 0 rfl (stars_perm (perm_in2 _ _ _ _ _) h2)
        obtain ⟨B4, hb2, _⟩ := part_at 1 rfl (stars_perm (perm_in2 _ _ _ _ _) h2)
        have hne : g1 ≠ g2 := by
          have hh := stars_perm (perm_in2 _ _ _ _ _) h2
          obtain ⟨Ba, Bb, q1, q2, qd, _⟩ := hh
          obtain ⟨Bc, Bd, q3, _, _, qe⟩ := q2
          intro e
          exact qd g1 ((q1.2 g1).2 rfl) ((qe g1).2 (.inl ((q3.2 g1).2 e)))
        have c1 : u2.cell? ⟨g1, j, none⟩ = some (.string z.s) := by rw [cells_at hb1.1]; exact CT.out.1
        have c2 : u2.cell? ⟨g2, j, none⟩ = some (.bool z.o) := by rw [cells_at hb2.1]; exact CT.out.2
        have f1 := cells_free hb1.1 j
        have f2 := cells_free hb2.1 j
        have l1 := lt_of_block hb1.1
        have l2 := lt_of_block hb2.1
        have hne2 : g2 ≠ g1 := fun e => hne e.symm
        have T2 := Lib.hid (two_set17 FR.out h2 j (.string r) (.bool (!o)))
        have N2 := Lib.hid (REL.out.2.2.2.trans n2)
        clear h2 n2 hb1 hb2 C hcell
        go_wp2_with fail
        obtain ⟨B5, k5, n5⟩ := T2.out
        rw [texts_set H j ⟨r, !o⟩, overs_set H j ⟨r, !o⟩] at k5
        refine ⟨⟨j + 1, N.s, N.b, rs1.set j (x, N.x), _, _, B5, by omega, rfl, (fst_set REL.out.2.2.1 _).trans REL.out.1, ?_, REL.out.2.1.step hlt r (!o) KA.out.2, k5, N2.out.trans n5⟩, ?_⟩
        · rw [snd_set]; exact KA.out.1
        · simp [intOf]; omega
      · have KB := Lib.hid (show MgOut s0 b0 F out size N.s N.b wx ((rs1.map (·.2)).set j N.x) er from k2)
        have he : (er != 0) = true := by simpa using k1
        clear k1 k2
        go_wp2_with fail
        refine C.out.mono ?_; rintro e u2 ⟨rfl, B2, h2, n2⟩
        obtain ⟨B3, h3, n3⟩ := drop_in h2
        obtain ⟨B4, h4, n4⟩ := drop_in h3
        have H4 := Lib.hid h4
        have N4 := Lib.hid (((REL.out.2.2.2.trans n2).trans n3).trans n4)
        clear h2 n2 h3 n3 h4 n4 C hcell
        go_wp2_with fail
        go_ret2
        exact .inr ⟨er, N.s, N.b, rs1.set j (x, N.x), B4, rfl, (fst_set REL.out.2.2.1 _).trans REL.out.1, by rw [snd_set]; exact KB.out, H4.out, N4.out⟩
    · obtain rfl : j = n := by omega
      obtain ⟨Ba, hb1, _⟩ := part_at 0 rfl (stars_perm (perm_in2 _ _ _ _ _) hst)
      obtain ⟨Bb, hb2, _⟩ := part_at 1 rfl (stars_perm (perm_in2 _ _ _ _ _) hst)
      have C := Lib.hid (lo_new_c (texts_lies hP.len hb1.1) (overs_lies hP.len hb2.1) (by rw [List.length_map, hP.len]; exact HN.out.2.2.1) (by rw [List.length_map, hP.len]; have := HN.out.2.2.1; omega) (fun s hs => by
        obtain ⟨z, hz, rfl⟩ := List.mem_map.1 hs
        have := hP.few z hz
        omega))
      rw [mkL_of] at C
      obtain ⟨B2, h2, n2⟩ := drop_in hst
      obtain ⟨B3, h3, n3⟩ := drop_in h2
      have H3 := Lib.hid h3
      have N3' := Lib.hid ((nx.trans n2).trans n3)
      have REL := Lib.hid (show rs1.map (·.1) = xs ∧ MgS s0 b0 F out size s1 b1 wx (rs1.map (·.2)) G [] ∧ PlH j j G H from ⟨hx, hS, hP⟩)
      have FR := Lib.hid (frs_all17 D P rs1 s1 b1 HM.out)
      clear hx hS hP hst nx hb1 hb2 h2 n2 h3 n3 START FB
      go_wp2_with fail
      refine C.out.mono ?_
      rintro e u2 ⟨⟨p, B4, rfl, h4, n4⟩, g4⟩
      obtain ⟨B5, h5, n5⟩ := part_new FR.out H3.out g4 h4 n4
      have H5 := Lib.hid (stars_perm (perm_in _ _ _ _).symm h5)
      have N5 := Lib.hid (N3'.out.trans n5)
      clear h4 n4 g4 h5 n5 C
      go_wp2_with fail
      go_ret2
      exact .inl ⟨p, s1, b1, rs1, G, H, B5, rfl, REL.out.1, REL.out.2.1, REL.out.2.2.done, by rw [REL.out.2.2.len, HN.out.1], H5.out, N5.out⟩
end Go.Proofs.YtjplkmmhjfpdaaaGreatDoor
