/- In one text: MgWay, MgStep. -/
import Derived.Test.YtjplkmmhjfpdaaaGreatDoorQ25
/- Plain facts: a merge that ends by an error, ahead of what was put off. -/
namespace Go.Proofs.YtjplkmmhjfpdaaaGreatDoor
open Go.RowKit FsPlain CrcPlain OctPlain FramePlain RecPlain RdPlain RnPlain LoPlain WrPlain
set_option linter.unusedVariables false
set_option linter.unusedSimpArgs false
set_option maxRecDepth 20000
structure MgOut (s0 : St) (b0 : Bu) (F : List (ByteArray × ByteArray)) (out : ByteArray) (size : Int) (s : St) (b : Bu) (wx : Ws) (ys : List Rs) (er : Int) : Prop where
  ne : er ≠ 0
  ok : s.ok
  bok : b.ok
  inv : ∀ y ∈ ys, N3.inv ⟨s, b, y⟩
  now : b.now = b0.now + (if wx.opn = true then 4 else 0) + 4 * (opnN ys : Nat)
  bm : b.m = b0.m
  n0 : 0 ≤ b0.now
  calls : s.calls ≤ s0.calls + 1000000
  oth : ∃ d, d ≤ 1 ∧ Oth out.data.toList d s0 s
  code : ∀ Ls, FilesAre size F Ls → F.length ≤ 64 → sizeB size = true → 4 * (F.length : Int) + 4 ≤ b0.m - b0.now → er = 4 ∨ er = 5 ∨ (er = 13 ∧ ¬ ∀ L ∈ Ls, Srt L)
  calm : ∀ Ls, FilesAre size F Ls → F.length ≤ 64 → sizeB size = true → 4 * (F.length : Int) + 4 ≤ b0.m - b0.now → WrPlain.Calm s0 → s0.fs.length ≤ 150 → (used s0.fs : Int) + 28 + 69 * (Ls.flatten.length : Nat) ≤ s0.room → er = 13 ∧ WrPlain.Calm s
theorem srcs_inv {s : St} {b : Bu} {size : Int} {F : List (ByteArray × ByteArray)} {ys : List Rs} {G : List (List ByteArray × Bool)} (h : Srcs s b size F ys G) (s' : St) (b' : Bu) : ∀ y ∈ ys, N3.inv ⟨s', b', y⟩ := fun y hy => by
  obtain ⟨i, hi, rfl⟩ := List.mem_iff_getElem.1 hy
  have hG : i < G.length := by rw [← h.len]; exact hi
  have hF : i < F.length := Nat.lt_of_lt_of_le hi h.le
  exact inv_other (h.src i _ _ _ _ _ (List.getElem?_eq_getElem hF) (List.getElem?_eq_getElem hi) (List.getElem?_eq_getElem hG)).inv
theorem firsts_le : ∀ G : List (List ByteArray × Bool), (G.map (·.1)).flatten.length ≤ callsG G
  | [] => Nat.zero_le _
  | g :: G => by
    have ih := firsts_le G
    unfold callsG at ih ⊢
    simp only [List.map_cons, List.flatten_cons, List.length_append, List.sum_cons]
    omega
theorem MgT.few {u : Bool} {G : List (List ByteArray × Bool)} {T : List (List ByteArray)} {H : List Hd} {done : List ByteArray} (h : MgT u G T H done) : done.length ≤ callsG G := by
  refine Nat.le_trans (done_le17 h.mid) (Nat.le_trans (flat_le (B := G.map (·.1)) (by rw [List.length_map, h.len]; exact Nat.le_refl _) fun i a b ha hb => ?_) (firsts_le G))
  have hi := (List.getElem?_eq_some_iff.1 ha).1
  have hH : H[i]? = some (H[i]'(by rw [h.mid.len]; exact hi)) := List.getElem?_eq_getElem _
  have hG := h.rel i a _ ha hH
  rw [List.getElem?_map, hG] at hb
  simp only [Option.map_some, Option.some.injEq] at hb
  subst hb
  split
  · exact Nat.le_refl _
  · rw [List.length_append]; omega
theorem MgS.calls17 {s0 : St} {b0 : Bu} {F : List (ByteArray × ByteArray)} {out : ByteArray} {size : Int} {s : St} {b : Bu} {wx : Ws} {ys : List Rs} {G : List (List ByteArray × Bool)} {done : List ByteArray} (h : MgS s0 b0 F out size s b wx ys G done) (hF : FilesOk s0 F out) (hl : F.length ≤ 64) (hd : done.length ≤ callsG G) : s.calls ≤ s0.calls + 700000 := by
  have h1 := h.calls
  have h2 := h.src.calls (fun p hp => (hF p hp).2.1) hl
  have h3 := h.src.le
  omega
theorem MgS.opened {s0 : St} {b0 : Bu} {F : List (ByteArray × ByteArray)} {out : ByteArray} {size : Int} {s : St} {b : Bu} {wx : Ws} {ys : List Rs} {G : List (List ByteArray × Bool)} {done : List ByteArray} (h : MgS s0 b0 F out size s b wx ys G done) : wx.opn = true := h.wr.opn
theorem isfile_at {size : Int} {F : List (ByteArray × ByteArray)} {Ls : List (List ByteArray)} (hL : FilesAre size F Ls) {i : Nat} {nm C : ByteArray} (hi : F[i]? = some (nm, C)) : ∃ L, L ∈ Ls ∧ IsFile size C L := by
  have h1 : i < Ls.length := by rw [hL.1]; exact (List.getElem?_eq_some_iff.1 hi).1
  exact ⟨Ls[i], List.getElem_mem h1, hL.2 i nm C _ hi (List.getElem?_eq_getElem h1)⟩
theorem MgS.out_open {s0 : St} {b0 : Bu} {F : List (ByteArray × ByteArray)} {out : ByteArray} {size : Int} {s : St} {b : Bu} {wx : Ws} {ys : List Rs} {G : List (List ByteArray × Bool)} (h : MgS s0 b0 F out size s b wx ys G []) (hF : FilesOk s0 F out) (hl : F.length ≤ 64) {nm C : ByteArray} (hi : F[ys.length]? = some (nm, C)) (h0 : (openN s b nm size).2.2.1 ≠ 0) (hN : NoOpen s b C size (openN s b nm size)) :
    MgOut s0 b0 F out size (openN s b nm size).1 (openN s b nm size).2.1 wx ys (openN s b nm size).2.2.1 := by
  have hc := (openN_calls s b nm size).2
  have hcs := h.calls17 hF hl (Nat.zero_le _)
  have hlt : ys.length < F.length := (List.getElem?_eq_some_iff.1 hi).1
  have hop := opn_le ys
  have hnow := h.now
  have hn0 := h.n0
  have hb : (openN s b nm size).2.1.ok ∧ (openN s b nm size).2.1.now = b.now ∧ (openN s b nm size).2.1.m = b.m := by
    rcases hN.how with ⟨_, e, _⟩ | ⟨_, e1, e⟩ | ⟨e1, e, _⟩
    · rw [e]; exact ⟨h.wr.ok.b, rfl, rfl⟩
    · rw [e, (take_no e1).1]; exact ⟨h.wr.ok.b, rfl, rfl⟩
    · obtain ⟨_, t1, t2⟩ := take_yes e1 (by decide)
      obtain ⟨g1, g2⟩ := give_now (b := b.take 4) (n := 4) (by decide)
      rw [e]
      exact ⟨Bu.give_ok (Bu.take_ok h.wr.ok.b 4) 4, by rw [g1, t1]; omega, by rw [g2, t2]⟩
  have key : ∀ Ls, FilesAre size F Ls → 4 * (F.length : Int) + 4 ≤ b0.m - b0.now → (openN s b nm size).2.2.1 = 5 ∧ ¬ (s.down = false ∧ s.ahead = -1) := fun Ls hL hm => by
    obtain ⟨L, _, hf⟩ := isfile_at hL hi
    rcases hN.how with ⟨_, _, e⟩ | ⟨_, e1, _⟩ | ⟨_, _, e | e⟩
    · exact absurd hf (e L)
    · have := ((take_no e1).2 (by decide)).1
      have hbm := h.bm
      omega
    · exact absurd hf (e.2 L)
    · exact e
  refine ⟨h0, hN.ok, hb.1, srcs_inv h.src _ _, ?_, by rw [hb.2.2]; exact h.bm, hn0, by omega, ⟨1, Nat.le_refl _, h.oth.trans (oth_quiet _ hN.disk)⟩, fun Ls hL _ _ hm => .inr (.inl (key Ls hL hm).1), fun Ls hL _ _ hm h1 h2 h3 => ?_⟩
  · rw [hb.2.1, h.opened, hnow]; simp
  · have := h.calm h1 h2 (by simp; omega)
    exact absurd this.1 (key Ls hL hm).2
theorem MgS.out_next {s0 : St} {b0 : Bu} {F : List (ByteArray × ByteArray)} {out : ByteArray} {size : Int} {s : St} {b : Bu} {wx : Ws} {ys : List Rs} {G : List (List ByteArray × Bool)} {done : List ByteArray} (h : MgS s0 b0 F out size s b wx ys G done) (hF : FilesOk s0 F out) (hl : F.length ≤ 64) (hd : done.length ≤ callsG G) (hdl : ∀ Ls, FilesAre size F Ls → done.length ≤ Ls.flatten.length) {i : Nat} {y : Rs} {nm C : ByteArray} (hi : F[i]? = some (nm, C)) (hy : ys[i]? = some y) (hyo : y.opn = true)
    (q : Quiet s (nextN ⟨s, b, y⟩).1.s) (hok : (nextN ⟨s, b, y⟩).1.s.ok) (hv : N3.inv (nextN ⟨s, b, y⟩).1) (hc : (nextN ⟨s, b, y⟩).1.s.calls ≤ s.calls + 1) (hb : (nextN ⟨s, b, y⟩).1.b = b.give 4) (ho : (nextN ⟨s, b, y⟩).1.x.opn = false) {er : Int} (he : (er = 6 ∧ ∀ L, ¬ IsFile size C L) ∨ (er = 5 ∧ ¬ WrPlain.Calm s)) :
    MgOut s0 b0 F out size (nextN ⟨s, b, y⟩).1.s (nextN ⟨s, b, y⟩).1.b wx (ys.set i (nextN ⟨s, b, y⟩).1.x) er := by
  have hcs := h.calls17 hF hl hd
  have hnow := h.now
  have hn0 := h.n0
  have hop := opn_set (y' := (nextN ⟨s, b, y⟩).1.x) hy
  rw [hyo, ho] at hop
  simp only [if_true, Bool.false_eq_true, if_false] at hop
  obtain ⟨g1, g2⟩ := give_now (b := b) (n := 4) (by decide)
  have key : ∀ Ls, FilesAre size F Ls → er = 5 ∧ ¬ WrPlain.Calm s := fun Ls hL => by
    obtain ⟨L, _, hf⟩ := isfile_at hL hi
    rcases he with ⟨_, e⟩ | e
    · exact absurd hf (e L)
    · exact e
  refine ⟨by rcases he with ⟨e, _⟩ | ⟨e, _⟩ <;> rw [e] <;> decide, hok, by rw [hb]; exact Bu.give_ok h.wr.ok.b 4, fun r hr => ?_, ?_, by rw [hb, g2]; exact h.bm, hn0, by omega, ⟨1, Nat.le_refl _, h.oth.trans (oth_quiet _ q)⟩, fun Ls hL _ _ hm => .inr (.inl (key Ls hL).1), fun Ls hL _ _ hm h1 h2 h3 => ?_⟩
  · rcases List.mem_or_eq_of_mem_set hr with k | k
    · exact srcs_inv h.src _ _ r k
    · rw [k]; exact hv
  · rw [hb, g1, h.opened]; simp only [if_true]; omega
  · have hz := hdl Ls hL
    have := h.calm h1 h2 (by omega)
    exact absurd this.1 (key Ls hL).2
theorem MgS.out_order {s0 : St} {b0 : Bu} {F : List (ByteArray × ByteArray)} {out : ByteArray} {size : Int} {s : St} {b : Bu} {wx : Ws} {ys : List Rs} {G : List (List ByteArray × Bool)} {done : List ByteArray} (h : MgS s0 b0 F out size s b wx ys G done) (hF : FilesOk s0 F out) (hl : F.length ≤ 64) (hd : done.length ≤ callsG G) (hdl : ∀ Ls, FilesAre size F Ls → done.length ≤ Ls.flatten.length) {i : Nat} {t : List ByteArray} {x z : ByteArray} {o : Bool} (hg : G[i]? = some (t ++ [x, z], o)) (hlt : ltT z x = true) :
    MgOut s0 b0 F out size s b wx ys 13 := by
  have hcs := h.calls17 hF hl hd
  have hiG := (List.getElem?_eq_some_iff.1 hg).1
  have hiy : i < ys.length := by rw [h.src.len]; exact hiG
  have hiF : i < F.length := Nat.lt_of_lt_of_le hiy h.src.le
  have key : ∀ Ls, FilesAre size F Ls → ¬ ∀ L ∈ Ls, Srt L := fun Ls hL =>
    not_rise hL (List.getElem?_eq_getElem hiF) (h.src.src i _ _ _ _ _ (List.getElem?_eq_getElem hiF) (List.getElem?_eq_getElem hiy) hg) (hF _ (List.getElem_mem hiF)).2.1 hlt
  refine ⟨by decide, h.wr.ok.s, h.wr.ok.b, srcs_inv h.src _ _, by rw [h.opened]; exact h.now, h.bm, h.n0, by omega, ⟨1, Nat.le_refl _, h.oth⟩, fun Ls hL _ _ _ => .inr (.inr ⟨rfl, key Ls hL⟩), fun Ls hL _ _ hm h1 h2 h3 => ⟨rfl, ?_⟩⟩
  have hz := hdl Ls hL
  exact (h.calm h1 h2 (by omega)).1
theorem MgS.out_put {s0 : St} {b0 : Bu} {F : List (ByteArray × ByteArray)} {out : ByteArray} {size : Int} {s : St} {b : Bu} {wx : Ws} {ys : List Rs} {G : List (List ByteArray × Bool)} {done : List ByteArray} (h : MgS s0 b0 F out size s b wx ys G done) (hF : FilesOk s0 F out) (hl : F.length ≤ 64) (hd : done.length ≤ callsG G) {n : Nat} {M : M3} {er : Int} (he : er = 4 ∨ er = 5) (hG : Gone ⟨s, b, wx⟩ M out er) (hc : M.s.calls ≤ s.calls + 3) (hn : ∀ Ls, FilesAre size F Ls → n ≤ Ls.flatten.length) (hx : ¬ (WrPlain.Calm s0 ∧ s0.fs.length ≤ 150 ∧ (used s0.fs : Int) + 28 + 69 * (n : Int) ≤ s0.room)) :
    MgOut s0 b0 F out size M.s M.b M.x ys er := by
  have hcs := h.calls17 hF hl hd
  have hnow := h.now
  have hn0 := h.n0
  obtain ⟨g1, g2⟩ := give_now (b := b) (n := 4) (by decide)
  have hb : M.b = b.give 4 := hG.bud
  refine ⟨by rcases he with e | e <;> rw [e] <;> decide, hG.ok.s, hG.ok.b, srcs_inv h.src _ _, ?_, by rw [hb, g2]; exact h.bm, hn0, by omega, ⟨1, Nat.le_refl _, h.oth.trans hG.oth⟩, fun Ls hL _ _ hm => by rcases he with e | e; exact .inl e; exact .inr (.inl e), fun Ls hL _ _ hm h1 h2 h3 => ?_⟩
  · rw [hb, g1, hG.opn]
    simp only [Bool.false_eq_true, if_false]
    omega
  · have hz := hn Ls hL
    exact absurd ⟨h1, h2, by omega⟩ hx
theorem MgOut.end {s0 : St} {b0 : Bu} {F : List (ByteArray × ByteArray)} {out : ByteArray} {size : Int} {s : St} {b : Bu} {wx : Ws} {ys : List Rs} {er : Int} (u : Bool) (h : MgOut s0 b0 F out size s b wx ys er) {b1 : Bu} (hL : Left b b1 (opnN ys)) :
    MergeR s0 b0 F out size u (dropM ⟨s, b1, wx⟩).s (dropM ⟨s, b1, wx⟩).b 0 0 er := by
  have h1 := hL.now
  have h2 := h.now
  have hd : (dropM ⟨s, b1, wx⟩).s = s ∧ (dropM ⟨s, b1, wx⟩).b.now = b0.now ∧ (dropM ⟨s, b1, wx⟩).b.m = b0.m := by
    obtain ⟨g1, g2⟩ := give_now (b := b1) (n := 4) (by decide)
    have hn0 := h.n0
    cases ho : wx.opn
    · have e : dropM ⟨s, b1, wx⟩ = ⟨s, b1, wx⟩ := by unfold dropM; rw [if_neg (by show ¬ wx.opn = true; rw [ho]; decide)]
      rw [ho] at h2
      simp only [Bool.false_eq_true, if_false] at h2
      rw [e]
      exact ⟨rfl, by show b1.now = _; omega, hL.m.trans h.bm⟩
    · have e : (dropM ⟨s, b1, wx⟩).s = s ∧ (dropM ⟨s, b1, wx⟩).b = b1.give 4 := by unfold dropM; rw [if_pos (by exact ho)]; exact ⟨rfl, rfl⟩
      rw [ho] at h2
      simp only [if_true] at h2
      rw [e.1, e.2]
      exact ⟨rfl, by rw [g1]; omega, by rw [g2]; exact hL.m.trans h.bm⟩
  rw [hd.1]
  exact mg_err h.ne h.ok hd.2.1 hd.2.2 h.calls h.oth h.code h.calm
theorem mg_create {s : St} {b : Bu} {F : List (ByteArray × ByteArray)} {out : ByteArray} {size : Int} (u : Bool) (hs : s.ok) (hb : b.ok) (hn : out.size ≤ 24) (hm : rightB out.data.toList = true) (hg : s.get out.data.toList = none) (h0 : (createM s b out size).2.2 ≠ 0) :
    MergeR s b F out size u (createM s b out size).1 (createM s b out size).2.1 0 0 (createM s b out size).2.2 := by
  have hc := createM_calls s b out size
  cases hz : sizeB size
  · have e : createM s b out size = (s, b, 1) := by unfold createM; rw [if_pos (by simp [hz])]
    rw [e] at h0 ⊢
    exact mg_err h0 hs rfl rfl (by show s.calls ≤ _; omega) ⟨0, by decide, Oth.refl _ _⟩ (fun Ls _ _ k _ => by rw [hz] at k; cases k) (fun Ls _ _ k _ => by rw [hz] at k; cases k)
  · rcases create_f hs hb hn hm hz hg with ⟨e, _⟩ | ⟨e, h4, e1, e2⟩ | ⟨e, h1, h4, e2, hO⟩
    · exact absurd e h0
    · have ht := take_no h4
      have key : 4 * (F.length : Int) + 4 ≤ b.m - b.now → False := fun k => by have := (ht.2 (by decide)).1; omega
      rw [e1, e2, ht.1]
      exact mg_err h0 hs rfl rfl (by omega) ⟨0, by decide, Oth.refl _ _⟩ (fun Ls _ _ _ k => (key k).elim) (fun Ls _ _ _ k => (key k).elim)
    · obtain ⟨_, t1, t2⟩ := take_yes h4 (by decide)
      obtain ⟨g1, g2⟩ := give_now (b := b.take 4) (n := 4) (by decide)
      have hn0 := hb.n0
      refine mg_err h0 h1 (by rw [e2, g1, t1]; omega) (by rw [e2, g2, t2]) (by omega) hO (fun Ls _ _ _ k => by rcases e with e | e; exact .inl e; exact .inr (.inl e)) (fun Ls _ _ _ k a1 a2 a3 => ?_)
      have := (create_fits (b := b) (nn := size) hs h4 a1 hz hg hn (by omega) (by omega)).1
      exact absurd this h0
end Go.Proofs.YtjplkmmhjfpdaaaGreatDoor
/- Plain facts: a merge, step by step, each with its way out. -/
namespace Go.Proofs.YtjplkmmhjfpdaaaGreatDoor
open Go.RowKit FsPlain CrcPlain OctPlain FramePlain RecPlain RdPlain RnPlain LoPlain WrPlain
set_option linter.unusedVariables false
set_option linter.unusedSimpArgs false
set_option maxRecDepth 20000
theorem MgS.size {s0 : St} {b0 : Bu} {F : List (ByteArray × ByteArray)} {out : ByteArray} {size : Int} {s : St} {b : Bu} {wx : Ws} {ys : List Rs} {G : List (List ByteArray × Bool)} {done : List ByteArray} (h : MgS s0 b0 F out size s b wx ys G done) : 1 ≤ size ∧ size ≤ 64 := by
  have h1 := h.wr.ok.z
  rw [h.wr.size] at h1
  simpa [sizeB] using h1
theorem MgS.srcs {s0 : St} {b0 : Bu} {F : List (ByteArray × ByteArray)} {out : ByteArray} {size : Int} {s : St} {b : Bu} {wx : Ws} {ys : List Rs} {G : List (List ByteArray × Bool)} {done : List ByteArray} (h : MgS s0 b0 F out size s b wx ys G done) {i : Nat} {y : Rs} {g : List ByteArray} {o : Bool} (hy : ys[i]? = some y) (hg : G[i]? = some (g, o)) : ∃ nm C, F[i]? = some (nm, C) ∧ SrcF s b size nm C y g o := by
  have hF : i < F.length := Nat.lt_of_lt_of_le (List.getElem?_eq_some_iff.1 hy).1 h.src.le
  exact ⟨F[i].1, F[i].2, List.getElem?_eq_getElem hF, h.src.src i _ _ _ _ _ (List.getElem?_eq_getElem hF) hy hg⟩
theorem MgS.ready {s0 : St} {b0 : Bu} {F : List (ByteArray × ByteArray)} {out : ByteArray} {size : Int} {s : St} {b : Bu} {wx : Ws} {ys : List Rs} {G : List (List ByteArray × Bool)} {done : List ByteArray} (h : MgS s0 b0 F out size s b wx ys G done) {i : Nat} {y : Rs} {g : List ByteArray} (hy : ys[i]? = some y) (hg : G[i]? = some (g, false)) : N3.ok ⟨s, b, y⟩ ∧ N3.inv ⟨s, b, y⟩ ∧ y.told ≤ 50000 ∧ y.opn = true := by
  obtain ⟨nm, C, _, hS⟩ := h.srcs hy hg
  rcases hS.how with ⟨_, hR⟩ | ⟨e, _⟩
  · exact ⟨hR.ok, hS.inv, hS.told, hS.opn⟩
  · cases e
theorem MgS.first {s0 : St} {b0 : Bu} {F : List (ByteArray × ByteArray)} {out : ByteArray} {size : Int} {s : St} {b : Bu} {wx : Ws} {ys : List Rs} {G : List (List ByteArray × Bool)} (h : MgS s0 b0 F out size s b wx ys G []) (hF : FilesOk s0 F out) (hl : F.length ≤ 64) {j : Nat} {y : Rs} (hy : ys[j]? = some y) (hg : G[j]? = some ([], false)) {X : N3 × ByteArray × Bool × Int} (hX : nextN ⟨s, b, y⟩ = X) :
    (X.2.2.2 = 0 ∧ MgS s0 b0 F out size X.1.s X.1.b wx (ys.set j X.1.x) (G.set j (if (!X.2.2.1) = true then [] else [X.2.1], !X.2.2.1)) [] ∧ X.2.1.size ≤ 64) ∨ (X.2.2.2 ≠ 0 ∧ MgOut s0 b0 F out size X.1.s X.1.b wx (ys.set j X.1.x) X.2.2.2) := by
  obtain ⟨nm, C, hi, hh⟩ := h.next hF hy hg
  obtain ⟨_, _, _, hyo⟩ := h.ready hy hg
  have hO := fun q hok hv hc hb ho er he => h.out_next (er := er) hF hl (Nat.zero_le _) (fun _ _ => Nat.zero_le _) hi hy hyo q hok hv hc hb ho he
  rw [hX] at hh hO
  obtain ⟨N, r, o, er⟩ := X
  simp only at hh hO ⊢
  rcases hh with ⟨h1, h2, h3, h4⟩ | ⟨h1, h2, h3, h4⟩ | ⟨h1, h2, q, hok, hv, hc, hb, ho, he⟩
  · subst h1
    left
    refine ⟨h2, by simpa using h3, ?_⟩
    have := h.size
    omega
  · subst h1 h2
    left
    exact ⟨h3, by simpa using h4, by show (0 : Nat) ≤ 64; omega⟩
  · right
    refine ⟨?_, hO q hok hv hc hb ho _ he⟩
    rcases he with ⟨e, _⟩ | ⟨e, _⟩ <;> rw [e] <;> decide
theorem MgT.few1 {u : Bool} {G : List (List ByteArray × Bool)} {T : List (List ByteArray)} {H : List Hd} {done t : List ByteArray} {i : Nat} {x : ByteArray} (h : MgT u G T H done) (p : PickM T H i t x) : done.length + 1 ≤ callsG G := by
  have hd := done_le17 h.mid
  have h2 := flat_le (A := T.set i (t ++ [x])) (B := G.map (·.1)) (by rw [List.length_set, List.length_map, h.len]; exact Nat.le_refl _) fun j a b ha hb => by
    by_cases e : j = i
    · subst e
      rw [List.getElem?_set_self (List.getElem?_eq_some_iff.1 p.t).1] at ha
      cases ha
      rw [List.getElem?_map, h.head p] at hb
      cases hb
      exact Nat.le_refl _
    · rw [List.getElem?_set_ne (Ne.symm e)] at ha
      have hj := (List.getElem?_eq_some_iff.1 ha).1
      have hH : H[j]? = some (H[j]'(by rw [h.mid.len]; exact hj)) := List.getElem?_eq_getElem _
      rw [List.getElem?_map, h.rel j a _ ha hH] at hb
      simp only [Option.map_some, Option.some.injEq] at hb
      subst hb
      split
      · exact Nat.le_refl _
      · rw [List.length_append]; omega
  have h3 := (flat_put x p.t).length_eq
  rw [List.length_append, List.length_singleton] at h3
  have := firsts_le G
  omega
theorem putEnd_le (u : Bool) (l : List ByteArray) (x : ByteArray) : (putEnd u l x).length ≤ l.length + 1 := by
  unfold putEnd
  split
  · omega
  · rw [List.length_append, List.length_singleton]; exact Nat.le_refl _
theorem MgS.put17 {u : Bool} {s0 : St} {b0 : Bu} {F : List (ByteArray × ByteArray)} {out : ByteArray} {size : Int} {s : St} {b : Bu} {wx : Ws} {ys : List Rs} {G : List (List ByteArray × Bool)} {done : List ByteArray} (h : MgS s0 b0 F out size s b wx ys G done) (hF : FilesOk s0 F out) (hl : F.length ≤ 64) {T : List (List ByteArray)} {H : List Hd} {i : Nat} {t : List ByteArray} {x : ByteArray} (ht : MgT u G T H done) (p : PickM T H i t x) {X : M3 × Int} (hX : putM ⟨s, b, wx⟩ x = X) :
    (X.2 = 0 ∧ MgS s0 b0 F out size X.1.s X.1.b X.1.x ys G (done ++ [x])) ∨ (X.2 ≠ 0 ∧ MgOut s0 b0 F out size X.1.s X.1.b X.1.x ys X.2) := by
  have hG := ht.head p
  have hy : ys[i]? = some (ys[i]'(by rw [h.src.len]; exact (List.getElem?_eq_some_iff.1 hG).1)) := List.getElem?_eq_getElem _
  obtain ⟨nm, C, _, hS⟩ := h.srcs hy hG
  have hz := hS.sizes x (by simp)
  have hc := putM_calls ⟨s, b, wx⟩ x
  have hk := h.put hF hz
  rw [hX] at hk hc
  have hzs : ∀ p ∈ F, p.2.size ≤ 5000 := fun q hq => (hF q hq).2.1
  rcases hk with h1 | ⟨he, hg, hx⟩
  · exact .inl h1
  · refine .inr ⟨by rcases he with e | e <;> rw [e] <;> decide, h.out_put hF hl ht.few (n := done.length + 1) he hg ?_ (fun Ls hL => (ht.lens h.src hzs hL).2 p.b) ?_⟩
    · have : X.1.s.calls ≤ s.calls + 1 := by
        have := hc
        omega
      omega
    · intro k
      exact hx ⟨k.1, k.2.1, by have := k.2.2; omega⟩
theorem MgS.read17 {u : Bool} {s0 : St} {b0 : Bu} {F : List (ByteArray × ByteArray)} {out : ByteArray} {size : Int} {s : St} {b : Bu} {wx : Ws} {ys : List Rs} {G : List (List ByteArray × Bool)} {done dn : List ByteArray} {T : List (List ByteArray)} {H : List Hd} {i : Nat} {t : List ByteArray} {x : ByteArray} {y : Rs} (ht : MgT u G T H done) (p : PickM T H i t x) (hd : dn = putEnd u done x) (h : MgS s0 b0 F out size s b wx ys G dn) (hF : FilesOk s0 F out) (hl : F.length ≤ 64) (hy : ys[i]? = some y) {X : N3 × ByteArray × Bool × Int} (hX : nextN ⟨s, b, y⟩ = X) :
    (X.2.2.2 = 0 ∧ (X.2.2.1 && ltT X.2.1 x) = false ∧ X.2.1.size ≤ 64 ∧ ∃ G', MgS s0 b0 F out size X.1.s X.1.b wx (ys.set i X.1.x) G' dn ∧ MgT u G' (T.set i (t ++ [x])) (nextL H X.2.1 (!X.2.2.1)) dn ∧ callsG G' = callsG G + 1) ∨
    ((X.2.2.1 && ltT X.2.1 x) = true ∧ MgOut s0 b0 F out size X.1.s X.1.b wx (ys.set i X.1.x) 13) ∨
    (X.2.2.1 = false ∧ X.2.2.2 ≠ 0 ∧ MgOut s0 b0 F out size X.1.s X.1.b wx (ys.set i X.1.x) X.2.2.2) := by
  have hG := ht.head p
  have hzs : ∀ p ∈ F, p.2.size ≤ 5000 := fun q hq => (hF q hq).2.1
  have hdl : dn.length ≤ callsG G := by rw [hd]; exact Nat.le_trans (putEnd_le _ _ _) (ht.few1 p)
  have hdL : ∀ Ls, FilesAre size F Ls → dn.length ≤ Ls.flatten.length := fun Ls hL => by rw [hd]; exact Nat.le_trans (putEnd_le _ _ _) ((ht.lens (by exact h.src) hzs hL).2 p.b)
  obtain ⟨nm, C, hi, hh⟩ := h.next hF hy hG
  obtain ⟨_, _, _, hyo⟩ := h.ready hy hG
  have hO := fun q hok hv hc hb ho er he => h.out_next (er := er) hF hl hdl hdL hi hy hyo q hok hv hc hb ho he
  rw [hX] at hh hO
  obtain ⟨N, r, o, er⟩ := X
  simp only at hh hO ⊢
  have hcs := fun g' => callsG_set (g' := g') hG
  have hGl := (List.getElem?_eq_some_iff.1 hG).1
  rcases hh with ⟨h1, h2, h3, h4⟩ | ⟨h1, h2, h3, h4⟩ | ⟨h1, h2, q, hok, hv, hc, hb, ho, he⟩
  · subst h1
    have hr : r.size ≤ 64 := by have := h.size; omega
    have hc1 : callsG (G.set i (t ++ [x] ++ [r], false)) = callsG G + 1 := by
      have := hcs (t ++ [x] ++ [r], false)
      simp only [List.length_append, List.length_singleton, Bool.false_eq_true, if_false] at this
      omega
    cases hlt : ltT r x
    · left
      refine ⟨h2, by simp, hr, _, h3, ?_, hc1⟩
      have hle : leT x r = true := le_iff.2 hlt
      have := ht.next p r false (fun _ => hle)
      rw [← hd] at this
      simpa using this
    · right; left
      refine ⟨rfl, MgS.out_order (t := t) (x := x) (z := r) (o := false) h3 hF hl (by rw [hc1]; omega) hdL (i := i) ?_ hlt⟩
      rw [List.getElem?_set_self hGl]
      simp
  · subst h1 h2
    left
    have hc1 : callsG (G.set i (t ++ [x], true)) = callsG G + 1 := by
      have := hcs (t ++ [x], true)
      simp only [List.length_append, List.length_singleton, Bool.false_eq_true, if_false, if_true] at this
      omega
    refine ⟨h3, by simp, by show (0 : Nat) ≤ 64; omega, _, h4, ?_, hc1⟩
    have := ht.next p ⟨#[]⟩ true (fun k => by cases k)
    rw [← hd] at this
    simpa using this
  · right; right
    refine ⟨h1, ?_, hO q hok hv hc hb ho _ he⟩
    rcases he with ⟨e, _⟩ | ⟨e, _⟩ <;> rw [e] <;> decide
structure Way (s0 : St) (b0 : Bu) (F : List (ByteArray × ByteArray)) (out : ByteArray) (size : Int) (u : Bool) (s : St) (b : Bu) (wx : Ws) (ys : List Rs) (k c er : Int) : Prop where
  bok : b.ok
  inv : ∀ y ∈ ys, N3.inv ⟨s, b, y⟩
  now : 4 * (opnN ys : Int) ≤ b.now
  fin : ∀ b1, Left b b1 (opnN ys) → MergeR s0 b0 F out size u (dropM ⟨s, b1, wx⟩).s (dropM ⟨s, b1, wx⟩).b k c er
theorem MgOut.way {s0 : St} {b0 : Bu} {F : List (ByteArray × ByteArray)} {out : ByteArray} {size : Int} {s : St} {b : Bu} {wx : Ws} {ys : List Rs} {er : Int} (u : Bool) (h : MgOut s0 b0 F out size s b wx ys er) : Way s0 b0 F out size u s b wx ys 0 0 er :=
  ⟨h.bok, h.inv, by have h1 := h.now; have h2 := h.n0; split at h1 <;> omega, fun _ hL => h.end u hL⟩
theorem ok_closeM17 {m : M3} (h : m.ok) : (closeM m).1.ok := by
  have h1 : (flushM m).1.ok := by
    unfold flushM
    split
    · exact h
    · exact ok_layM h _
  have h2 : (endM (flushM m).1).1.ok := ok_layM h1 _
  have h3 : (syncM (endM (flushM m).1).1).1.ok := ⟨ok_sync h2.s _, h2.b, h2.n1, h2.n2, h2.z, h2.wl, h2.wz, h2.az⟩
  unfold closeM
  split
  · exact h
  · split
    · exact h1
    · split
      · exact ok_dropM h2
      · exact ok_dropM h3
theorem opn_zero : ∀ {ys : List Rs}, (∀ y ∈ ys, y.opn = false) → opnN ys = 0
  | [], _ => rfl
  | y :: ys, h => by
    have h1 := opn_zero (ys := ys) fun z hz => h z (by simp [hz])
    unfold opnN at h1 ⊢
    rw [List.filter_cons, h y (by simp)]
    simpa using h1
theorem callsG_sum : ∀ {G : List (List ByteArray × Bool)} {F : List (ByteArray × ByteArray)}, G.length ≤ F.length → (∀ (i : Nat) (g : List ByteArray × Bool) (p : ByteArray × ByteArray), G[i]? = some g → F[i]? = some p → g.1.length ≤ p.2.size) → callsG G ≤ (F.map fun p => p.2.size).sum + G.length
  | [], _, _, _ => Nat.zero_le _
  | g :: G, [], h, _ => by simp at h
  | g :: G, p :: F, h, k => by
    have h1 := k 0 g p rfl rfl
    have h2 := callsG_sum (G := G) (F := F) (by simpa using h) fun i x y hx hy => k (i + 1) x y (by simpa using hx) (by simpa using hy)
    unfold callsG at h2 ⊢
    simp only [List.map_cons, List.sum_cons, List.length_cons]
    split <;> omega
theorem Srcs.few17 {s : St} {b : Bu} {size : Int} {F : List (ByteArray × ByteArray)} {ys : List Rs} {G : List (List ByteArray × Bool)} (h : Srcs s b size F ys G) (hs : (F.map fun p => p.2.size).sum ≤ 90000) (hl : F.length ≤ 64) : callsG G ≤ 90064 := by
  have h1 := callsG_sum (G := G) (F := F) (by rw [← h.len]; exact h.le) fun i g p hg hp => by
    have hi := (List.getElem?_eq_some_iff.1 hg).1
    have hy : i < ys.length := by rw [h.len]; exact hi
    rcases (h.src i p.1 p.2 _ g.1 g.2 hp (List.getElem?_eq_getElem hy) hg).how with ⟨_, k⟩ | ⟨_, _, _, k⟩
    · exact Nat.le_trans (Nat.le_add_right _ 11) k.few
    · exact file_few k
  have h2 := h.le
  have h3 := h.len
  omega
theorem MgS.close17 {u : Bool} {s0 : St} {b0 : Bu} {F : List (ByteArray × ByteArray)} {out : ByteArray} {size : Int} {s : St} {b : Bu} {wx : Ws} {ys : List Rs} {G : List (List ByteArray × Bool)} {done : List ByteArray} {T : List (List ByteArray)} {H : List Hd} (h : MgS s0 b0 F out size s b wx ys G done) (hF : FilesOk s0 F out) (hl : F.length ≤ 64) (hsum : (F.map fun p => p.2.size).sum ≤ 90000) (hn : ys.length = F.length) (ht : MgT u G T H done) (hb : leastB H = false) {X : M3 × Int} (hX : closeM ⟨s, b, wx⟩ = X) :
    ∃ k c, closeV ⟨s, b, wx⟩ X.2 = .tuple #[.agg #[.int .i64 k, .int .u32 c], .int .i64 X.2] ∧ Way s0 b0 F out size u X.1.s X.1.b X.1.x ys k c X.2 := by
  have hzs : ∀ p ∈ F, p.2.size ≤ 5000 := fun q hq => (hF q hq).2.1
  have hcg := h.src.few17 hsum hl
  have hfew := ht.few
  have hok' := ok_closeM17 h.wr.ok
  have hcc := (closeM_calls ⟨s, b, wx⟩).1
  have hcs := h.calls17 hF hl hfew
  have hnow := h.now
  have hn0 := h.n0
  have hlast := fun h1 h2 h3 => close_fits (m := ⟨s, b, wx⟩) h.wr h1 h2 h3 (U := used s0.fs)
  have hcf := close_f h.wr (by omega) hok'
  rw [hX] at hcf hok' hcc hlast
  obtain ⟨g1, g2⟩ := give_now (b := b) (n := 4) (by decide)
  refine ⟨_, _, rfl, ?_⟩
  rcases hcf with ⟨h0, hD⟩ | hG
  · have hbX : X.1.b = b.give 4 := hD.bud
    have hso : X.1.x.opn = false := hD.opn
    have hall : ∀ y ∈ ys, y.opn = false := fun y hy => by
      obtain ⟨i, hi, rfl⟩ := List.mem_iff_getElem.1 hy
      have hiG : i < G.length := by rw [← h.src.len]; exact hi
      have hiT : i < T.length := by rw [← ht.len]; exact hiG
      have hiH : i < H.length := by rw [ht.mid.len]; exact hiT
      obtain ⟨m1, _, _⟩ := ht.mid.end hb
      have hz := m1 i _ (List.getElem?_eq_getElem hiH)
      have hG := ht.rel i _ _ (List.getElem?_eq_getElem hiT) (List.getElem?_eq_getElem hiH)
      rw [hz] at hG
      obtain ⟨_, _, _, hS⟩ := h.srcs (List.getElem?_eq_getElem hi) hG
      exact hS.opn
    have hon := opn_zero hall
    refine ⟨by rw [hbX]; exact Bu.give_ok h.wr.ok.b 4, srcs_inv h.src _ _, by rw [hon, hbX, g1]; omega, fun b1 hL => ?_⟩
    have hLn := hL.now
    have hLm := hL.m
    rw [hon] at hLn hnow
    have e : dropM ⟨X.1.s, b1, X.1.x⟩ = ⟨X.1.s, b1, X.1.x⟩ := by unfold dropM; rw [if_neg (by show ¬ X.1.x.opn = true; rw [hso]; decide)]
    rw [e, h0, if_pos rfl, if_pos rfl]
    have hal : wx.all = done := h.wr.all
    show MergeR s0 b0 F out size u X.1.s b1 (wx.all.length : Nat) (sumN wx.all : Nat) 0
    rw [hal]
    refine mg_ok h hF hn ht hb hD hcc (by rw [hX]) hl (by omega) (by omega) ?_ ?_
    · rw [hLn, hbX, g1]; omega
    · rw [hLm, hbX, g2]; exact h.bm
  · have hne : X.2 ≠ 0 := by rcases hG.code with e | e <;> rw [e] <;> decide
    rw [if_neg hne, if_neg hne]
    refine (h.out_put hF hl hfew (n := done.length) hG.code hG hcc (fun Ls hL => (ht.lens h.src hzs hL).1) ?_).way u
    rintro ⟨a1, a2, a3⟩
    obtain ⟨c1, c2⟩ := h.calm a1 a2 a3
    have hrm : s.room = s0.room := h.oth.room
    exact hne (hlast c1 c2 (by show (_ : Int) ≤ s.room; rw [hrm]; omega)).1
end Go.Proofs.YtjplkmmhjfpdaaaGreatDoor
