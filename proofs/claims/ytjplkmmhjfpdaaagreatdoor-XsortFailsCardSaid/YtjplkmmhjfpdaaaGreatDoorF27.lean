/- In one text: MgExit, XsState. -/
import Derived.Test.YtjplkmmhjfpdaaaGreatDoorF26
import Derived.Test.YtjplkmmhjfpdaaaGreatDoorF17
import Derived.Test.YtjplkmmhjfpdaaaGreatDoorF19
/- Plain facts: what each way out of a merge leaves. -/
namespace Go.Proofs.YtjplkmmhjfpdaaaGreatDoor
open Go.RowKit FsPlain CrcPlain OctPlain FramePlain RecPlain RdPlain RnPlain LoPlain WrPlain
set_option linter.unusedVariables false
set_option linter.unusedSimpArgs false
set_option maxRecDepth 20000
def FilesAre (size : Int) (F : List (ByteArray × ByteArray)) (Ls : List (List ByteArray)) : Prop := Ls.length = F.length ∧ ∀ (i : Nat) (nm C : ByteArray) (L : List ByteArray), F[i]? = some (nm, C) → Ls[i]? = some L → IsFile size C L
theorem mg_err {s0 s' : St} {b0 b' : Bu} {F : List (ByteArray × ByteArray)} {out : ByteArray} {size : Int} {u : Bool} {er : Int} (he : er ≠ 0) (hok : s'.ok) (hnow : b'.now = b0.now) (hbm : b'.m = b0.m) (hc : s'.calls ≤ s0.calls + 1000000) (ho : ∃ d, d ≤ 1 ∧ Oth out.data.toList d s0 s')
    (hcode : ∀ Ls, FilesAre size F Ls → F.length ≤ 64 → sizeB size = true → 4 * (F.length : Int) + 4 ≤ b0.m - b0.now → er = 4 ∨ er = 5 ∨ (er = 13 ∧ ¬ ∀ L ∈ Ls, Srt L))
    (hcalm : ∀ Ls, FilesAre size F Ls → F.length ≤ 64 → sizeB size = true → 4 * (F.length : Int) + 4 ≤ b0.m - b0.now → WrPlain.Calm s0 → s0.fs.length ≤ 150 → (used s0.fs : Int) + 28 + 69 * (Ls.flatten.length : Nat) ≤ s0.room → er = 13 ∧ WrPlain.Calm s') : MergeR s0 b0 F out size u s' b' 0 0 er :=
  ⟨fun _ => ⟨rfl, rfl⟩, hok, hnow, hbm, hc, ho, fun k => absurd k he, fun Ls h1 h2 h3 h4 h5 => by
    rcases hcode Ls ⟨h1, h2⟩ h3 h4 h5 with k | k | k
    · exact .inl k
    · exact .inr (.inl k)
    · exact .inr (.inr (.inr k)), fun Ls h1 h2 h3 h4 h5 h6 h7 h8 => by
    obtain ⟨k1, k2⟩ := hcalm Ls ⟨h1, h2⟩ h3 h4 h5 h6 h7 h8
    exact ⟨by omega, by omega, k2⟩, fun k => absurd k he⟩
structure MgT (u : Bool) (G : List (List ByteArray × Bool)) (T : List (List ByteArray)) (H : List Hd) (done : List ByteArray) : Prop where
  mid : Mid u T H done
  len : G.length = T.length
  rel : ∀ (i : Nat) (t : List ByteArray) (z : Hd), T[i]? = some t → H[i]? = some z → G[i]? = some (if z.o = true then t else t ++ [z.s], z.o)
theorem done_le17 {u : Bool} {T : List (List ByteArray)} {H : List Hd} {done : List ByteArray} (m : Mid u T H done) : done.length ≤ T.flatten.length := by rw [m.is]; exact sortT_le _ _
theorem MgT.pre {u : Bool} {G : List (List ByteArray × Bool)} {T : List (List ByteArray)} {H : List Hd} {done : List ByteArray} (h : MgT u G T H done) {s : St} {b : Bu} {size : Int} {F : List (ByteArray × ByteArray)} {ys : List Rs} (hS : Srcs s b size F ys G) (hz : ∀ p ∈ F, p.2.size ≤ 5000) {Ls : List (List ByteArray)} (hL : FilesAre size F Ls) {i : Nat} {t : List ByteArray} {z : Hd} (ht : T[i]? = some t) (hH : H[i]? = some z) : ∃ L r, Ls[i]? = some L ∧ L = (if z.o = true then t else t ++ [z.s]) ++ r := by
  have hG := h.rel i t z ht hH
  have hi : i < ys.length := by rw [hS.len]; exact (List.getElem?_eq_some_iff.1 hG).1
  have hF : i < F.length := Nat.lt_of_lt_of_le hi hS.le
  have hf : F[i]? = some F[i] := List.getElem?_eq_getElem hF
  have hLi : Ls[i]? = some (Ls[i]'(by rw [hL.1]; exact hF)) := List.getElem?_eq_getElem _
  obtain ⟨r, hr⟩ := (hS.src i _ _ _ _ _ hf (List.getElem?_eq_getElem hi) hG).pre (Nat.le_trans (hz _ (List.getElem_mem hF)) (by decide)) (hL.2 i _ _ _ hf hLi)
  exact ⟨_, r, hLi, hr⟩
theorem MgT.lens {u : Bool} {G : List (List ByteArray × Bool)} {T : List (List ByteArray)} {H : List Hd} {done : List ByteArray} (h : MgT u G T H done) {s : St} {b : Bu} {size : Int} {F : List (ByteArray × ByteArray)} {ys : List Rs} (hS : Srcs s b size F ys G) (hz : ∀ p ∈ F, p.2.size ≤ 5000) {Ls : List (List ByteArray)} (hL : FilesAre size F Ls) : done.length ≤ Ls.flatten.length ∧ (leastB H = true → done.length + 1 ≤ Ls.flatten.length) := by
  have hTl : T.length ≤ Ls.length := by rw [hL.1, ← h.len, ← hS.len]; exact hS.le
  have hd := done_le17 h.mid
  have key : ∀ (i : Nat) (a b : List ByteArray), T[i]? = some a → Ls[i]? = some b → a.length ≤ b.length := fun i a b ha hb => by
    have hi := (List.getElem?_eq_some_iff.1 ha).1
    have hH : H[i]? = some (H[i]'(by rw [h.mid.len]; exact hi)) := List.getElem?_eq_getElem _
    obtain ⟨L, r, k1, k2⟩ := h.pre hS hz hL ha hH
    rw [hb] at k1
    cases k1
    rw [k2]
    split
    · rw [List.length_append]; omega
    · rw [List.length_append, List.length_append]; omega
  refine ⟨Nat.le_trans hd (flat_le hTl key), fun hb => ?_⟩
  obtain ⟨i, t, x, p⟩ := h.mid.pick hb
  obtain ⟨L, r, k1, k2⟩ := h.pre hS hz hL p.t p.h
  have h2 := flat_le (A := T.set i (t ++ [x])) (B := Ls) (by rw [List.length_set]; exact hTl) fun j a b ha hb2 => by
    by_cases e : j = i
    · subst e
      rw [List.getElem?_set_self (List.getElem?_eq_some_iff.1 p.t).1] at ha
      cases ha
      rw [hb2] at k1
      cases k1
      rw [k2]
      simp
    · rw [List.getElem?_set_ne (Ne.symm e)] at ha
      exact key j a b ha hb2
  have h3 := (flat_put x p.t).length_eq
  rw [List.length_append, List.length_singleton] at h3
  omega
theorem not_rise {size : Int} {F : List (ByteArray × ByteArray)} {Ls : List (List ByteArray)} (hL : FilesAre size F Ls) {i : Nat} {nm C : ByteArray} (hF : F[i]? = some (nm, C)) {s : St} {b : Bu} {y : Rs} {g : List ByteArray} {x z : ByteArray} {o : Bool} (hS : SrcF s b size nm C y (g ++ [x, z]) o) (hC : C.size ≤ 5000) (hlt : ltT z x = true) : ¬ ∀ L ∈ Ls, Srt L := by
  intro h
  have hi := (List.getElem?_eq_some_iff.1 hF).1
  have hLi : Ls[i]? = some (Ls[i]'(by rw [hL.1]; exact hi)) := List.getElem?_eq_getElem _
  obtain ⟨r, hr⟩ := hS.pre (by omega) (hL.2 i nm C _ hF hLi)
  have hs := h _ (List.mem_of_getElem? hLi)
  rw [hr] at hs
  unfold Srt at hs
  rw [List.pairwise_append, List.pairwise_append] at hs
  have := hs.1.2.1
  simp only [List.pairwise_cons] at this
  have h1 := this.1 z (by simp)
  rw [le_iff.1 h1] at hlt
  cases hlt
theorem mg_ok {s0 : St} {b0 b' : Bu} {F : List (ByteArray × ByteArray)} {out : ByteArray} {size : Int} {u : Bool} {s : St} {b : Bu} {wx : Ws} {ys : List Rs} {G : List (List ByteArray × Bool)} {T : List (List ByteArray)} {H : List Hd} {done : List ByteArray} {M : M3} (h : MgS s0 b0 F out size s b wx ys G done) (hF : FilesOk s0 F out) (hn : ys.length = F.length) (ht : MgT u G T H done) (hb : leastB H = false) (hD : Done ⟨s, b, wx⟩ M out size done) (hMc : M.s.calls ≤ s.calls + 3) (hcl : (closeM ⟨s, b, wx⟩).1 = M) (hfl : F.length ≤ 64) (hcg : callsG G ≤ 200000) (hdl : done.length ≤ 200000) (hnow : b'.now = b0.now) (hbm : b'.m = b0.m) :
    MergeR s0 b0 F out size u M.s b' (done.length : Nat) (sumN done : Nat) 0 := by
  obtain ⟨m1, m2, m3⟩ := ht.mid.end hb
  have hTl : T.length = F.length := by rw [← ht.len, ← h.src.len]; exact hn
  have hfile : ∀ (i : Nat) (nm C : ByteArray) (L : List ByteArray), F[i]? = some (nm, C) → T[i]? = some L → IsFile size C L := fun i nm C L h1 h2 => by
    have hi := (List.getElem?_eq_some_iff.1 h2).1
    have hH : H[i]? = some (H[i]'(by rw [ht.mid.len]; exact hi)) := List.getElem?_eq_getElem _
    have hz := m1 i _ hH
    have hG := ht.rel i L _ h2 hH
    rw [if_pos hz, hz] at hG
    have hy : i < ys.length := by rw [h.src.len]; exact (List.getElem?_eq_some_iff.1 hG).1
    rcases (h.src.src i nm C _ L true h1 (List.getElem?_eq_getElem hy) hG).how with ⟨k, _⟩ | ⟨_, _, _, k⟩
    · cases k
    · exact k
  have hone : ∀ Ls, FilesAre size F Ls → Ls = T := fun Ls hL => by
    refine List.ext_getElem (by rw [hL.1, hTl]) fun i h1 h2 => ?_
    have hi : i < F.length := by rw [← hTl]; exact h2
    have hf : F[i]? = some F[i] := List.getElem?_eq_getElem hi
    exact file_one (hL.2 i _ _ _ hf (List.getElem?_eq_getElem h1)) (hfile i _ _ _ hf (List.getElem?_eq_getElem h2))
  have ho := h.oth.trans hD.oth
  have hc := h.calls
  refine ⟨fun k => absurd rfl k, hD.ok.s, hnow, hbm, by omega, ⟨1, Nat.le_refl _, ho⟩, fun _ => ⟨T, hTl, fun i nm C L h1 h2 => ⟨hfile i nm C L h1 h2, m2 L (List.mem_of_getElem? h2)⟩, ?_, by rw [m3], by rw [m3], ho.len⟩, fun Ls h1 h2 _ _ _ => .inr (.inr (.inl ⟨rfl, fun L hL => ?_⟩)), fun Ls h1 h2 _ _ _ h6 h7 h8 => ⟨by decide, by decide, ?_⟩, fun _ Ls h1 h2 h6 h7 h8 => ?_⟩
  · obtain ⟨f, f1, f2⟩ := hD.file
    exact ⟨f, f1, by rw [f2, bs_data, m3]⟩
  · rw [hone Ls ⟨h1, h2⟩] at hL
    exact m2 L hL
  · rw [hone Ls ⟨h1, h2⟩] at h8
    have hd := done_le17 ht.mid
    obtain ⟨c1, c2⟩ := h.calm h6 h7 (by omega)
    have hrm : s.room = s0.room := h.oth.room
    have := (close_fits h.wr c1 c2 (by show (_ : Int) ≤ s.room; rw [hrm]; omega)).2.1
    rw [hcl] at this
    exact this
  · rw [hone Ls ⟨h1, h2⟩] at h8 ⊢
    have hd := done_le17 ht.mid
    obtain ⟨c1, c2⟩ := h.calm h6 h7 (by omega)
    have hrm : s.room = s0.room := h.oth.room
    have := (close_fits h.wr c1 c2 (by show (_ : Int) ≤ s.room; rw [hrm]; omega)).2.2
    rw [hcl] at this
    omega
theorem file_few {size : Int} {C : ByteArray} {L : List ByteArray} (h : IsFile size C L) : L.length ≤ C.size := by
  obtain ⟨h1, h2⟩ := h
  have hs := lay_size h1
  have hB := h1
  unfold layB at hB
  rw [Bool.and_eq_true] at hB
  have h3 : 1 ≤ size ∧ size ≤ 64 := by simpa [sizeB] using hB.1
  have h4 : (L.length : Int) * 1 ≤ L.length * size := Int.mul_le_mul_of_nonneg_left h3.1 (by omega)
  have h5 : layR size L = C := by rw [layR_yes h1, ← h2]; exact bs_toList C
  rw [h5] at hs
  omega
theorem callsG_le : ∀ {G : List (List ByteArray × Bool)}, (∀ g ∈ G, g.1.length ≤ 5000) → callsG G ≤ 5001 * G.length
  | [], _ => Nat.zero_le _
  | g :: G, h => by
    have ih := callsG_le (G := G) fun x hx => h x (by simp [hx])
    have h1 := h g (by simp)
    unfold callsG at ih ⊢
    simp only [List.map_cons, List.sum_cons, List.length_cons]
    split <;> omega
theorem Srcs.calls {s : St} {b : Bu} {size : Int} {F : List (ByteArray × ByteArray)} {ys : List Rs} {G : List (List ByteArray × Bool)} (h : Srcs s b size F ys G) (hz : ∀ p ∈ F, p.2.size ≤ 5000) (hl : F.length ≤ 64) : callsG G ≤ 330000 := by
  have h1 := callsG_le (G := G) fun g hg => by
    obtain ⟨i, hi, rfl⟩ := List.mem_iff_getElem.1 hg
    have hy : i < ys.length := by rw [h.len]; exact hi
    have hF : i < F.length := Nat.lt_of_lt_of_le hy h.le
    have hS := h.src i _ _ _ _ _ (List.getElem?_eq_getElem hF) (List.getElem?_eq_getElem hy) (List.getElem?_eq_getElem hi)
    have hC : F[i].2.size ≤ 5000 := hz _ (List.getElem_mem hF)
    rcases hS.how with ⟨_, k⟩ | ⟨_, _, _, k⟩
    · exact Nat.le_trans (Nat.le_trans (Nat.le_add_right _ 11) k.few) hC
    · exact Nat.le_trans (file_few k) hC
  have h2 := h.le
  have h3 := h.len
  omega
theorem mgT_start (u : Bool) {G : List (List ByteArray × Bool)} {H : List Hd} (hl : G.length = H.length) (hr : ∀ (i : Nat) (z : Hd), H[i]? = some z → G[i]? = some (if z.o = true then [] else [z.s], z.o)) : MgT u G (List.replicate H.length []) H [] :=
  ⟨mid_start u H, by rw [List.length_replicate]; exact hl, fun i t z ht hz => by
    rw [List.getElem?_replicate] at ht
    split at ht
    · cases ht
      exact hr i z hz
    · cases ht⟩
theorem MgT.next {u : Bool} {G : List (List ByteArray × Bool)} {T : List (List ByteArray)} {H : List Hd} {done t : List ByteArray} {i : Nat} {x : ByteArray} (h : MgT u G T H done) (p : PickM T H i t x) (s : ByteArray) (o : Bool) (hr : o = false → leT x s = true) : MgT u (G.set i (if o = true then t ++ [x] else (t ++ [x]) ++ [s], o)) (T.set i (t ++ [x])) (nextL H s o) (putEnd u done x) := by
  have hil : i < H.length := (List.getElem?_eq_some_iff.1 p.h).1
  have hN : nextL H s o = H.set i ⟨s, o⟩ := by unfold nextL; rw [if_pos p.b, p.n, Int.toNat_natCast]
  have hTi : i < T.length := by rw [← h.mid.len]; exact hil
  refine ⟨h.mid.next p s o hr, by rw [List.length_set, List.length_set]; exact h.len, fun j r z hj hz => ?_⟩
  rw [hN] at hz
  by_cases e : j = i
  · subst e
    rw [List.getElem?_set_self hTi] at hj
    rw [List.getElem?_set_self hil] at hz
    cases hj; cases hz
    rw [List.getElem?_set_self (by rw [h.len]; exact hTi)]
  · rw [List.getElem?_set_ne (Ne.symm e)] at hj hz ⊢
    exact h.rel j r z hj hz
theorem MgT.head {u : Bool} {G : List (List ByteArray × Bool)} {T : List (List ByteArray)} {H : List Hd} {done t : List ByteArray} {i : Nat} {x : ByteArray} (h : MgT u G T H done) (p : PickM T H i t x) : G[i]? = some (t ++ [x], false) := by
  have := h.rel i t _ p.t p.h
  simpa using this
end Go.Proofs.YtjplkmmhjfpdaaaGreatDoor
/- Plain facts: a sort on its way: files that become fewer; what each way out leaves. -/
namespace Go.Proofs.YtjplkmmhjfpdaaaGreatDoor
open Go.RowKit FsPlain CrcPlain OctPlain FramePlain RecPlain RdPlain RnPlain WrPlain
set_option linter.unusedVariables false
set_option linter.unusedSimpArgs false
set_option maxRecDepth 20000
namespace XsPlain
abbrev Wq := List (ByteArray × List ByteArray)
def filesW (size : Int) (W : Wq) : List (ByteArray × ByteArray) := W.map fun p => (p.1, bs (layL size p.2))
structure XsJ (s0 : St) (b0 : Bu) (C out : ByteArray) (size : Int) (u : Bool) (L : List ByteArray) (s : St) (b : Bu) (W : Wq) : Prop where
  ok0 : s0.ok
  free : ∀ n, isB n out.data.toList = true → s0.get n = none
  file : IsFile size C L
  ok : s.ok
  now : b.now = b0.now
  bm : b.m = b0.m
  nd : (W.map (·.1)).Nodup
  way : ∀ p ∈ W, isB p.1.data.toList out.data.toList = true ∧ rightB p.1.data.toList = true ∧ p.1.size ≤ 24
  has : ∀ p ∈ W, HasD s p.1.data.toList (bs (layL size p.2))
  none : ∀ n, isB n out.data.toList = true → (∀ p ∈ W, n ≠ p.1.data.toList) → s.get n = none
  off : Off (fun n => isB n out.data.toList = true) s0 s
  fix : ∀ p ∈ W, sortT p.2 u = p.2 ∧ layB size p.2 = true
  all : sortT (W.map (·.2)).flatten u = sortT L u
  few : (W.map (·.2)).flatten.length ≤ L.length
  wl : W.length ≤ L.length + 1
theorem same_name {s : St} (h : s.ok) {f g : F} (hf : f ∈ s.fs) (hg : g ∈ s.fs) (e : f.name = g.name) : f = g := by
  obtain ⟨i, hi, rfl⟩ := List.mem_iff_getElem.1 hf
  obtain ⟨j, hj, rfl⟩ := List.mem_iff_getElem.1 hg
  have hp := List.pairwise_iff_getElem.1 h.d
  rcases Nat.lt_trichotomy i j with k | k | k
  · exact absurd e (hp i j hi hj k)
  · subst k; rfl
  · exact absurd e.symm (hp j i hj hi k)
theorem mem_get {s : St} (h : s.ok) {f : F} : f ∈ s.fs ↔ s.get f.name = some f := by
  constructor
  · intro hf
    obtain ⟨g, hg⟩ := get_name (s := s) (n := f.name) (List.mem_map.2 ⟨f, hf, rfl⟩)
    have hn : g.name = f.name := by have := List.find?_some hg; simpa using this
    rw [hg, same_name h (get_mem hg) hf hn]
  · exact fun hg => get_mem hg
theorem fs_nodup {s : St} (h : s.ok) : s.fs.Nodup := h.d.imp fun k e => k (by rw [e])
theorem XsJ.perm {s0 : St} {b0 : Bu} {C out : ByteArray} {size : Int} {u : Bool} {L : List ByteArray} {s : St} {b : Bu} {W : Wq} (h : XsJ s0 b0 C out size u L s b W) : s.fs.Perm (s0.fs ++ W.map fun p => (s.get p.1.data.toList).getD ⟨[], [], 0⟩) := by
  have hg : ∀ p ∈ W, ∃ f, s.get p.1.data.toList = some f ∧ f.name = p.1.data.toList := fun p hp => by
    obtain ⟨f, hf, _⟩ := h.has p hp
    exact ⟨f, hf, by have := List.find?_some hf; simpa using this⟩
  have hinj : ∀ p ∈ W, ∀ q ∈ W, p.1.data.toList = q.1.data.toList → p.1 = q.1 := fun p _ q _ e => ByteArray.ext (Array.toList_inj.1 e)
  have hn : (s0.fs ++ W.map fun p => (s.get p.1.data.toList).getD ⟨[], [], 0⟩).Nodup := by
    rw [List.nodup_append]
    refine ⟨fs_nodup h.ok0, ?_, fun f hf g hg2 e => ?_⟩
    · have hnd := h.nd
      unfold List.Nodup at hnd ⊢
      rw [List.pairwise_map] at hnd ⊢
      refine List.Pairwise.imp_of_mem ?_ hnd
      intro p q hp hq hne e
      obtain ⟨f, hf, n1⟩ := hg p hp
      obtain ⟨g, hg3, n2⟩ := hg q hq
      rw [hf, hg3] at e
      simp only [Option.getD_some] at e
      subst e
      exact hne (hinj p hp q hq (n1.symm.trans n2))
    · subst e
      obtain ⟨p, hp, e⟩ := List.mem_map.1 hg2
      obtain ⟨g, hg3, n2⟩ := hg p hp
      rw [hg3] at e
      simp only [Option.getD_some] at e
      subst e
      have := h.free g.name (by rw [n2]; exact (h.way p hp).1)
      rw [(mem_get h.ok0).1 hf] at this
      cases this
  refine (List.perm_ext_iff_of_nodup (fs_nodup h.ok) hn).2 fun f => ?_
  rw [mem_get h.ok, List.mem_append, mem_get h.ok0]
  by_cases hw : isB f.name out.data.toList = true
  · rw [h.free _ hw]
    constructor
    · intro hf
      right
      have : ¬ ∀ p ∈ W, f.name ≠ p.1.data.toList := fun k => by rw [h.none _ hw k] at hf; cases hf
      simp only [Classical.not_forall, Classical.not_imp, Classical.not_not] at this
      obtain ⟨p, hp, e⟩ := this
      refine List.mem_map.2 ⟨p, hp, ?_⟩
      rw [← e, hf]; rfl
    · rintro (k | k)
      · cases k
      · obtain ⟨p, hp, e⟩ := List.mem_map.1 k
        obtain ⟨g, hg3, n2⟩ := hg p hp
        rw [hg3] at e
        simp only [Option.getD_some] at e
        subst e
        rw [n2]; exact hg3
  · rw [h.off.get _ hw]
    constructor
    · exact .inl
    · rintro (k | k)
      · exact k
      · obtain ⟨p, hp, e⟩ := List.mem_map.1 k
        obtain ⟨g, hg3, n2⟩ := hg p hp
        rw [hg3] at e
        simp only [Option.getD_some] at e
        subst e
        rw [n2] at hw
        exact absurd (h.way p hp).1 hw
theorem lay_le {size : Int} {l : List ByteArray} (h : layB size l = true) : ((layL size l).length : Int) = 28 + 5 * (((l.length : Int) + 3) / 4) + l.length * size ∧ 1 ≤ size ∧ size ≤ 64 := by
  have h1 := lay_size h
  rw [layR_yes h] at h1
  have h2 : 1 ≤ size ∧ size ≤ 64 := by
    unfold layB at h
    rw [Bool.and_eq_true] at h
    simpa [sizeB] using h.1
  exact ⟨by rw [← h1]; rfl, h2⟩
theorem lay_69 {size : Int} {l : List ByteArray} (h : layB size l = true) : (layL size l).length ≤ 28 + 69 * l.length := by
  obtain ⟨h1, h2, h3⟩ := lay_le h
  have : (l.length : Int) * size ≤ l.length * 64 := Int.mul_le_mul_of_nonneg_left h3 (by omega)
  omega
theorem sum_69 {size : Int} : ∀ {W : Wq}, (∀ p ∈ W, layB size p.2 = true) → (W.map fun p => (layL size p.2).length).sum ≤ 28 * W.length + 69 * (W.map (·.2)).flatten.length
  | [], _ => Nat.le_refl _
  | p :: W, h => by
    have ih := sum_69 (W := W) fun q hq => h q (by simp [hq])
    have h1 := lay_69 (h p (by simp))
    simp only [List.map_cons, List.sum_cons, List.flatten_cons, List.length_append, List.length_cons]
    omega
theorem used_app (A B : List F) : used (A ++ B) = used A + used B := by unfold used; rw [List.map_append, List.sum_append]
theorem XsJ.used {s0 : St} {b0 : Bu} {C out : ByteArray} {size : Int} {u : Bool} {L : List ByteArray} {s : St} {b : Bu} {W : Wq} (h : XsJ s0 b0 C out size u L s b W) : used s.fs ≤ used s0.fs + 28 * W.length + 69 * L.length ∧ s.fs.length = s0.fs.length + W.length := by
  have hp := h.perm
  refine ⟨?_, by rw [hp.length_eq, List.length_append, List.length_map]⟩
  rw [used_perm hp, used_app]
  have e : FsPlain.used (W.map fun p => (s.get p.1.data.toList).getD ⟨[], [], 0⟩) = (W.map fun p => (layL size p.2).length).sum := by
    unfold FsPlain.used
    rw [List.map_map]
    congr 1
    refine List.map_congr_left fun p hp => ?_
    obtain ⟨f, hf, hd⟩ := h.has p hp
    simp only [Function.comp, hf, Option.getD_some, hd, bs_data]
  rw [e]
  have h1 := sum_69 (W := W) fun p hp => (h.fix p hp).2
  have h2 := h.few
  omega
theorem flat_ge {W : Wq} {p : ByteArray × List ByteArray} (hp : p ∈ W) : p.2.length ≤ (W.map (·.2)).flatten.length := by
  induction W with
  | nil => simp at hp
  | cons q W ih =>
    simp only [List.map_cons, List.flatten_cons, List.length_append]
    rcases List.mem_cons.1 hp with rfl | hp
    · omega
    · have := ih hp; omega
theorem XsJ.small {s0 : St} {b0 : Bu} {C out : ByteArray} {size : Int} {u : Bool} {L : List ByteArray} {s : St} {b : Bu} {W : Wq} (h : XsJ s0 b0 C out size u L s b W) : L.length ≤ C.size ∧ ∀ p ∈ W, (bs (layL size p.2)).size ≤ C.size := by
  refine ⟨file_few h.file, fun p hp => ?_⟩
  have h1 := lay_le (h.fix p hp).2
  have h2 := lay_le h.file.1
  have h3 := flat_ge hp
  have h4 := h.few
  have h5 : (p.2.length : Int) * size ≤ (L.length : Int) * size := Int.mul_le_mul_of_nonneg_right (by omega) (by omega)
  have h6 : C.size = (layL size L).length := by rw [← h.file.2]; rfl
  show (layL size p.2).length ≤ _
  omega
theorem sum_files {size : Int} (hs : 1 ≤ size) : ∀ {W : Wq}, (∀ p ∈ W, layB size p.2 = true) → ((((filesW size W).map fun p => p.2.size).sum : Nat) : Int) ≤ 33 * (W.length : Int) + ((W.map (·.2)).flatten.length : Int) * size + 2 * ((W.map (·.2)).flatten.length : Int)
  | [], _ => by simp [filesW]
  | p :: W, h => by
    have ih := sum_files hs (W := W) fun q hq => h q (by simp [hq])
    have h1 := lay_le (h p (by simp))
    have e : ((((filesW size (p :: W)).map fun p => p.2.size).sum : Nat) : Int) = ((layL size p.2).length : Int) + ((((filesW size W).map fun p => p.2.size).sum : Nat) : Int) := by
      unfold filesW
      simp only [List.map_cons, List.sum_cons]
      push_cast
      rfl
    rw [e]
    simp only [List.map_cons, List.flatten_cons, List.length_append, List.length_cons]
    have e2 : ((p.2.length + (W.map (·.2)).flatten.length : Nat) : Int) * size = (p.2.length : Int) * size + ((W.map (·.2)).flatten.length : Int) * size := by push_cast; exact Int.add_mul _ _ _
    rw [e2]
    push_cast
    omega
theorem flat_front {X Y : Wq} : ((X ++ Y).map (·.2)).flatten.length = (X.map (·.2)).flatten.length + (Y.map (·.2)).flatten.length := by rw [List.map_append, List.flatten_append, List.length_append]
theorem XsJ.files {s0 : St} {b0 : Bu} {C out : ByteArray} {size : Int} {u : Bool} {L : List ByteArray} {s : St} {b : Bu} {X Y : Wq} (h : XsJ s0 b0 C out size u L s b (X ++ Y)) (hC : C.size ≤ 5000) {o : ByteArray} (ho : ∀ p ∈ X ++ Y, p.1 ≠ o) (hX : X.length ≤ 64) :
    (∀ p ∈ filesW size X, HasD s p.1.data.toList p.2 ∧ p.2.size ≤ 5000 ∧ rightB p.1.data.toList = true ∧ p.1.size ≤ 24 ∧ p.1 ≠ o) ∧ (filesW size X).length ≤ 64 ∧ ((filesW size X).map fun p => p.2.size).sum ≤ 90000 ∧ (filesW size X).map (·.1) = X.map (·.1) := by
  obtain ⟨h1, h2⟩ := h.small
  have hs := lay_le h.file.1
  refine ⟨fun p hp => ?_, by unfold filesW; rw [List.length_map]; exact hX, ?_, by unfold filesW; rw [List.map_map]; rfl⟩
  · obtain ⟨q, hq, rfl⟩ := List.mem_map.1 hp
    have hm : q ∈ X ++ Y := List.mem_append_left _ hq
    obtain ⟨w1, w2, w3⟩ := h.way q hm
    exact ⟨h.has q hm, by have := h2 q hm; show (bs (layL size q.2)).size ≤ _; omega, w2, w3, ho q hm⟩
  · have hsum := sum_files (size := size) (by omega) (W := X) fun p hp => (h.fix p (List.mem_append_left _ hp)).2
    have hf := h.few
    rw [flat_front] at hf
    have h5 : ((X.map (·.2)).flatten.length : Int) * size ≤ (L.length : Int) * size := Int.mul_le_mul_of_nonneg_right (by omega) (by omega)
    have h6 : C.size = (layL size L).length := by rw [← h.file.2]; rfl
    omega
theorem filesAre_W {size : Int} {W : Wq} (h : ∀ p ∈ W, layB size p.2 = true) : (W.map (·.2)).length = (filesW size W).length ∧ ∀ (i : Nat) (nm C : ByteArray) (L : List ByteArray), (filesW size W)[i]? = some (nm, C) → (W.map (·.2))[i]? = some L → IsFile size C L := by
  refine ⟨by unfold filesW; rw [List.length_map, List.length_map], fun i nm C L h1 h2 => ?_⟩
  unfold filesW at h1
  rw [List.getElem?_map, Option.map_eq_some_iff] at h1 h2
  obtain ⟨p, hp, e1⟩ := h1
  obtain ⟨q, hq, rfl⟩ := h2
  rw [hp] at hq
  cases hq
  cases e1
  have hB := h p (List.mem_of_getElem? hp)
  have := lay_file hB
  rwa [layR_yes hB] at this
theorem lay_sort {size : Int} (hs : sizeB size = true) {u : Bool} {Ls : List (List ByteArray)} (h : ∀ l ∈ Ls, layB size l = true) : layB size (sortT Ls.flatten u) = true := by
  unfold layB
  rw [Bool.and_eq_true, allB_iff]
  refine ⟨hs, fun x hx => ?_⟩
  have hx2 : x ∈ Ls.flatten := by
    cases u
    · exact (sortT_perm _).mem_iff.1 hx
    · exact ((sortU _).2 x).1 hx
  obtain ⟨l, hl, hxl⟩ := List.mem_flatten.1 hx2
  have h1 := h l hl
  unfold layB at h1
  rw [Bool.and_eq_true, allB_iff] at h1
  exact h1.2 x hxl
theorem sort_twice (l : List ByteArray) (u : Bool) : sortT (sortT l u) u = sortT l u := by
  have := sort_flat u [l]
  simpa using this
theorem xs_err {s0 : St} {b0 : Bu} {C inn out : ByteArray} {size : Int} {u : Bool} {s' : St} {b' : Bu} {er : Int} (he : er ≠ 0) (hok : s'.ok) (hn : b'.now = b0.now) (hm : b'.m = b0.m) (hc : s'.calls ≤ s0.calls + 1000000000) (hO : Off (fun n => n = out.data.toList ∨ isB n out.data.toList = true) s0 s') (hl : b0.m - b0.now < 16 → er = 9) (hcode : ∀ L, IsFile size C L → 16 ≤ b0.m - b0.now → er = 4 ∨ er = 5) (hcalm : ∀ L, IsFile size C L → 16 ≤ b0.m - b0.now → WrPlain.Calm s0 → L.length ≤ 100 → s0.fs.length ≤ 40 → (FsPlain.used s0.fs : Int) + 200 * ((L.length : Nat) + 1) ≤ s0.room → False) : SortR s0 b0 C inn out size u s' b' 0 0 er :=
  ⟨fun _ => ⟨rfl, rfl⟩, hok, hn, hm, hc, fun n h1 h2 => hO.get n (fun k => k.elim h1 (fun k2 => by rw [h2] at k2; cases k2)), hl, fun k => absurd k he, fun L hL h16 => .inr (hcode L hL h16), fun L hL h16 a1 a2 a3 a4 a5 => (hcalm L hL h16 ⟨a1, a2⟩ a3 a4 a5).elim⟩
theorem XsJ.calm {s0 : St} {b0 : Bu} {C out : ByteArray} {size : Int} {u : Bool} {L : List ByteArray} {s : St} {b : Bu} {W : Wq} (h : XsJ s0 b0 C out size u L s b W) (hc : WrPlain.Calm s0) : WrPlain.Calm s := h.off.cm hc.1 hc.2
end XsPlain
end Go.Proofs.YtjplkmmhjfpdaaaGreatDoor
