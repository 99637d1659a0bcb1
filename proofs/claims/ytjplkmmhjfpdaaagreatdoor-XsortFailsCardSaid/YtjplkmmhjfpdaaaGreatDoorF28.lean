/- In one text: XsStep, RnRef3, RnStep. -/
import Derived.Test.YtjplkmmhjfpdaaaGreatDoorF27
import Derived.Test.YtjplkmmhjfpdaaaGreatDoorF15
import Derived.Test.YtjplkmmhjfpdaaaGreatDoorF13
/- Plain facts: a sort, step by step, each with its way out. -/
namespace Go.Proofs.YtjplkmmhjfpdaaaGreatDoor
open Go.RowKit FsPlain CrcPlain OctPlain FramePlain RecPlain RdPlain RnPlain WrPlain
set_option linter.unusedVariables false
set_option linter.unusedSimpArgs false
set_option maxRecDepth 20000
namespace XsPlain
theorem sort_mem {a b : List ByteArray} (h : ∀ x, x ∈ a ↔ x ∈ b) : sortT a true = sortT b true :=
  sortT_isU (sortT_srt a true) (sortU a).1 fun x => ((sortU a).2 x).trans (h x)
theorem sort_swap (a b : List ByteArray) (u : Bool) : sortT (a ++ sortT b u) u = sortT (b ++ a) u := by
  cases u
  · exact sort_perm false (((sortT_perm b).append_left a).trans List.perm_append_comm)
  · refine sort_mem fun x => ?_
    rw [List.mem_append, List.mem_append, (sortU b).2 x]
    exact Or.comm
theorem sort_comm (a b : List ByteArray) (u : Bool) : sortT (a ++ b) u = sortT (b ++ a) u := by
  cases u
  · exact sort_perm false List.perm_append_comm
  · exact sort_mem fun x => by rw [List.mem_append, List.mem_append]; exact Or.comm
theorem sizeB_of {size : Int} {l : List ByteArray} (h : layB size l = true) : sizeB size = true := by
  unfold layB at h
  rw [Bool.and_eq_true] at h
  exact h.1
structure XsM (s0 : St) (b0 : Bu) (out : ByteArray) (size : Int) (u : Bool) (X Y : Wq) (o : ByteArray) (s1 : St) (b1 : Bu) : Prop where
  ok : s1.ok
  now : b1.now = b0.now
  bm : b1.m = b0.m
  has : ∀ p ∈ X ++ Y, HasD s1 p.1.data.toList (bs (layL size p.2))
  made : HasD s1 o.data.toList (bs (layL size (sortT (X.map (·.2)).flatten u)))
  none : ∀ n, isB n out.data.toList = true → (∀ p ∈ X ++ Y, n ≠ p.1.data.toList) → n ≠ o.data.toList → s1.get n = none
  off : Off (fun n => isB n out.data.toList = true) s0 s1
theorem data_ne {a b : ByteArray} (h : a ≠ b) : a.data.toList ≠ b.data.toList := fun e => h (ByteArray.ext (Array.toList_inj.1 e))
theorem XsJ.merge {s0 : St} {b0 : Bu} {C inn out : ByteArray} {size : Int} {u : Bool} {L : List ByteArray} {s : St} {b : Bu} {X Y : Wq} (h : XsJ s0 b0 C out size u L s b (X ++ Y)) {o : ByteArray} (how : isB o.data.toList out.data.toList = true) (hno : ∀ p ∈ X ++ Y, p.1 ≠ o) (hX : X.length ≤ 64) (h16 : 16 ≤ b0.m - b0.now) (hfan : 4 * (X.length : Int) + 4 ≤ b0.m - b0.now) {s1 : St} {b1 : Bu} {k1 c1 er : Int} (hR : MergeR s b (filesW size X) o size u s1 b1 k1 c1 er) (hc : s1.calls ≤ s0.calls + 1000000000) :
    (er = 0 ∧ XsM s0 b0 out size u X Y o s1 b1 ∧ k1 = ((sortT (X.map (·.2)).flatten u).length : Nat) ∧ c1 = (sumN (sortT (X.map (·.2)).flatten u) : Nat)) ∨ (er ≠ 0 ∧ SortR s0 b0 C inn out size u s1 b1 0 0 er) := by
  have hlay : ∀ p ∈ X, layB size p.2 = true := fun p hp => (h.fix p (List.mem_append_left _ hp)).2
  obtain ⟨f1, f2⟩ := filesAre_W hlay
  have hsz := sizeB_of h.file.1
  have hlen : (filesW size X).length = X.length := by unfold filesW; rw [List.length_map]
  have hfan' : 4 * ((filesW size X).length : Int) + 4 ≤ b.m - b.now := by rw [hlen, h.bm, h.now]; exact hfan
  have hsrt : ∀ l ∈ X.map (·.2), Srt l := fun l hl => by
    obtain ⟨p, hp, rfl⟩ := List.mem_map.1 hl
    have := (h.fix p (List.mem_append_left _ hp)).1
    rw [← this]
    exact sortT_srt _ _
  obtain ⟨d, _, hO⟩ := hR.oth
  have hoff : Off (fun n => isB n out.data.toList = true) s0 s1 := h.off.trans ((off_oth hO).more fun n hn => by rw [hn]; exact how)
  have hcode := hR.code _ f1 f2 (by rw [hlen]; exact hX) hsz hfan'
  by_cases he : er = 0
  · left
    obtain ⟨Ls, g1, g2, g3, g4, g5, g6⟩ := hR.yes he
    have hLs : Ls = X.map (·.2) := by
      refine List.ext_getElem (by rw [g1, f1]) fun i i1 i2 => ?_
      have hf : (filesW size X)[i]? = some ((filesW size X)[i]'(by rw [← g1]; exact i1)) := List.getElem?_eq_getElem _
      exact file_one (g2 i _ _ _ hf (List.getElem?_eq_getElem i1)).1 (f2 i _ _ _ hf (List.getElem?_eq_getElem i2))
    rw [hLs] at g3 g4 g5
    refine ⟨he, ⟨hR.ok, hR.now.trans h.now, hR.bm.trans h.bm, fun p hp => (off_oth hO).has (data_ne (hno p hp)) (h.has p hp), g3, fun n h1 h2 h3 => ?_, hoff⟩, g4, g5⟩
    rw [(off_oth hO).get n h3]
    exact h.none n h1 h2
  · right
    have h45 : er = 4 ∨ er = 5 := by
      rcases hcode with k | k | ⟨k, _⟩ | ⟨_, k⟩
      · exact .inl k
      · exact .inr k
      · exact absurd k he
      · exact absurd hsrt k
    refine ⟨he, xs_err he hR.ok (hR.now.trans h.now) (hR.bm.trans h.bm) hc (hoff.more fun n hn => .inr hn) (fun k => by omega) (fun _ _ _ => h45) fun L' hL' _ a1 a2 a3 a4 => ?_⟩
    have e := file_one hL' h.file
    subst e
    obtain ⟨u1, u2⟩ := h.used
    have hw := h.wl
    have hf := h.few
    rw [flat_front] at hf
    have hrm := h.off.room
    obtain ⟨n4, n5, _⟩ := hR.calm _ f1 f2 (by rw [hlen]; exact hX) hsz hfan' (h.calm a1) (by rw [u2]; omega) (by rw [hrm]; omega)
    rcases h45 with k | k
    · exact n4 k
    · exact n5 k
theorem XsJ.clear {s0 : St} {b0 : Bu} {C inn out : ByteArray} {size : Int} {u : Bool} {L : List ByteArray} {s : St} {b : Bu} {X Y : Wq} (h : XsJ s0 b0 C out size u L s b (X ++ Y)) {o : ByteArray} (how : isB o.data.toList out.data.toList = true ∧ rightB o.data.toList = true ∧ o.size ≤ 24) (hno : ∀ p ∈ X ++ Y, p.1 ≠ o) (hX1 : 1 ≤ X.length ∨ X ++ Y = []) (h16 : 16 ≤ b0.m - b0.now) {s1 : St} {b1 : Bu} (hM : XsM s0 b0 out size u X Y o s1 b1) {Q : St × Int} (hQ : clearR s1 ((X.map (·.1)).map fun n => n.data.toList) = Q) (hc : Q.1.calls ≤ s0.calls + 1000000000) :
    (Q.2 = 0 ∧ XsJ s0 b0 C out size u L Q.1 b1 (Y ++ [(o, sortT (X.map (·.2)).flatten u)])) ∨ (Q.2 ≠ 0 ∧ SortR s0 b0 C inn out size u Q.1 b1 0 0 Q.2) := by
  have hnd := h.nd
  rw [List.map_append, List.nodup_append] at hnd
  obtain ⟨nX, nY, nXY⟩ := hnd
  have hnX : ((X.map (·.1)).map fun n => n.data.toList).Nodup := by
    unfold List.Nodup at nX ⊢
    rw [List.pairwise_map]
    exact nX.imp fun k => data_ne k
  have hmX : ∀ n, n ∈ ((X.map (·.1)).map fun n => n.data.toList) ↔ ∃ p ∈ X, n = p.1.data.toList := fun n => by
    simp only [List.map_map, List.mem_map, Function.comp]
    exact ⟨fun ⟨p, hp, e⟩ => ⟨p, hp, e.symm⟩, fun ⟨p, hp, e⟩ => ⟨p, hp, e.symm⟩⟩
  have hin : ∀ n ∈ ((X.map (·.1)).map fun n => n.data.toList), ∃ f, s1.get n = some f := fun n hn => by
    obtain ⟨p, hp, rfl⟩ := (hmX n).1 hn
    obtain ⟨f, hf, _⟩ := hM.has p (List.mem_append_left _ hp)
    exact ⟨f, hf⟩
  have hOc := off_clear ((X.map (·.1)).map fun n => n.data.toList) s1
  have hcd := clear_code ((X.map (·.1)).map fun n => n.data.toList) hM.ok hnX hin
  have hok := ok_clear ((X.map (·.1)).map fun n => n.data.toList) hM.ok
  have hcalm := fun (k : WrPlain.Calm s1) => (clear_calm ((X.map (·.1)).map fun n => n.data.toList) hM.ok k hnX hin).1
  rw [hQ] at hOc hcd hok hcalm
  have hoff : Off (fun n => isB n out.data.toList = true) s0 Q.1 := hM.off.trans (hOc.more fun n hn => by
    obtain ⟨p, hp, rfl⟩ := (hmX n).1 hn
    exact (h.way p (List.mem_append_left _ hp)).1)
  have hYX : ∀ p ∈ Y, ¬ p.1.data.toList ∈ ((X.map (·.1)).map fun n => n.data.toList) := fun p hp k => by
    obtain ⟨q, hq, e⟩ := (hmX _).1 k
    exact nXY q.1 (List.mem_map.2 ⟨q, hq, rfl⟩) p.1 (List.mem_map.2 ⟨p, hp, rfl⟩) (ByteArray.ext (Array.toList_inj.1 e.symm))
  have hoX : ¬ o.data.toList ∈ ((X.map (·.1)).map fun n => n.data.toList) := fun k => by
    obtain ⟨q, hq, e⟩ := (hmX _).1 k
    exact data_ne (hno q (List.mem_append_left _ hq)) e.symm
  rcases hcd with ⟨h0, hgone, _, _⟩ | h5
  · left
    refine ⟨h0, h.ok0, h.free, h.file, hok, hM.now, hM.bm, ?_, ?_, ?_, ?_, hoff, ?_, ?_, ?_, ?_⟩
    · rw [List.map_append, List.nodup_append]
      refine ⟨nY, by simp, fun a ha c hc2 e => ?_⟩
      simp only [List.map_cons, List.map_nil, List.mem_singleton] at hc2
      obtain ⟨p, hp, rfl⟩ := List.mem_map.1 ha
      exact hno p (List.mem_append_right _ hp) (e.trans hc2)
    · intro p hp
      rcases List.mem_append.1 hp with hp | hp
      · exact h.way p (List.mem_append_right _ hp)
      · rw [List.mem_singleton.1 hp]; exact how
    · intro p hp
      rcases List.mem_append.1 hp with hp | hp
      · exact hOc.has (hYX p hp) (hM.has p (List.mem_append_right _ hp))
      · rw [List.mem_singleton.1 hp]; exact hOc.has hoX hM.made
    · intro n hn hne
      by_cases hx : n ∈ ((X.map (·.1)).map fun n => n.data.toList)
      · exact hgone n hx
      · rw [hOc.get n hx]
        refine hM.none n hn (fun p hp e => ?_) (hne (o, sortT (X.map (·.2)).flatten u) (by simp))
        rcases List.mem_append.1 hp with hp | hp
        · exact hx ((hmX n).2 ⟨p, hp, e⟩)
        · exact hne p (List.mem_append_left _ hp) e
    · intro p hp
      rcases List.mem_append.1 hp with hp | hp
      · exact h.fix p (List.mem_append_right _ hp)
      · rw [List.mem_singleton.1 hp]
        exact ⟨sort_twice _ _, lay_sort (sizeB_of h.file.1) fun l hl => by
          obtain ⟨q, hq, rfl⟩ := List.mem_map.1 hl
          exact (h.fix q (List.mem_append_left _ hq)).2⟩
    · have := h.all
      rw [List.map_append, List.flatten_append] at this ⊢
      simp only [List.map_cons, List.map_nil, List.flatten_cons, List.flatten_nil, List.append_nil]
      rw [sort_swap, this]
    · have := h.few
      have h2 := sortT_le (X.map (·.2)).flatten u
      rw [List.map_append, List.flatten_append, List.length_append] at this ⊢
      simp only [List.map_cons, List.map_nil, List.flatten_cons, List.flatten_nil, List.append_nil]
      omega
    · have := h.wl
      rw [List.length_append] at this ⊢
      rcases hX1 with k | k
      · simp only [List.length_singleton]; omega
      · rw [List.append_eq_nil_iff] at k
        rw [k.2]; simp
  · right
    refine ⟨by rw [h5]; decide, xs_err (by rw [h5]; decide) hok hM.now hM.bm hc (hoff.more fun n hn => .inr hn) (fun k => by omega) (fun _ _ _ => .inr h5) fun L' hL' _ a1 a2 a3 a4 => ?_⟩
    have := hcalm (hM.off.cm a1.1 a1.2)
    rw [h5] at this
    cases this
def runsW (wo : ByteArray) (T : List (List ByteArray)) : Wq := (List.range T.length).map fun (i : Nat) => (nameN wo (i : Int), T.getD i [])
theorem runsW_snd (wo : ByteArray) (T : List (List ByteArray)) : (runsW wo T).map (·.2) = T := by
  unfold runsW
  rw [List.map_map]
  refine List.ext_getElem (by simp) fun i h1 h2 => ?_
  simp [List.getD, h2]
theorem runsW_mem {wo : ByteArray} {T : List (List ByteArray)} {p : ByteArray × List ByteArray} (h : p ∈ runsW wo T) : ∃ i : Nat, i < T.length ∧ T[i]? = some p.2 ∧ p.1 = nameN wo (i : Int) := by
  unfold runsW at h
  obtain ⟨i, hi, rfl⟩ := List.mem_map.1 h
  have hi2 := List.mem_range.1 hi
  exact ⟨i, hi2, by simp [List.getD, hi2], rfl⟩
theorem runs_all (m : Nat) (hm : 1 ≤ m) (u : Bool) : ∀ (f : Nat) (l : List ByteArray), l.length ≤ f → sortT (runsT m u f l).flatten u = sortT l u ∧ (runsT m u f l).flatten.length ≤ l.length ∧ (∀ r ∈ runsT m u f l, sortT r u = r ∧ ∀ x ∈ r, x ∈ l) ∧ (runsT m u f l).length ≤ l.length
  | 0, l, h => by
    have : l = [] := List.eq_nil_of_length_eq_zero (by omega)
    subst this
    exact ⟨rfl, Nat.le_refl _, fun r hr => by simp [runsT] at hr, Nat.le_refl _⟩
  | f + 1, l, h => by
    by_cases hl : l = []
    · subst hl
      exact ⟨by simp [runsT], by simp [runsT], fun r hr => by simp [runsT] at hr, by simp [runsT]⟩
    · have e : runsT m u (f + 1) l = sortT (l.take m) u :: runsT m u f (l.drop m) := by
        cases l with
        | nil => exact absurd rfl hl
        | cons a r => simp [runsT]
      have hpos : 0 < l.length := List.length_pos_iff.2 hl
      obtain ⟨i1, i2, i3, i4⟩ := runs_all m hm u f (l.drop m) (by rw [List.length_drop]; omega)
      have hs := sortT_le (l.take m) u
      rw [e]
      rw [List.length_take] at hs
      rw [List.length_drop] at i2 i4
      refine ⟨?_, ?_, fun r hr => ?_, ?_⟩
      · rw [List.flatten_cons, sort_comm, sort_swap, sort_comm, ← sort_swap (l.take m), i1, sort_swap, sort_comm, List.take_append_drop]
      · rw [List.flatten_cons, List.length_append]; omega
      · rcases List.mem_cons.1 hr with rfl | hr
        · refine ⟨sort_twice _ _, fun x hx => List.mem_of_mem_take (i := m) ?_⟩
          cases u
          · exact (sortT_perm _).mem_iff.1 hx
          · exact ((sortU _).2 x).1 hx
        · exact ⟨(i3 r hr).1, fun x hx => List.mem_of_mem_drop ((i3 r hr).2 x hx)⟩
      · rw [List.length_cons]; omega
theorem lay_mem {size : Int} {l r : List ByteArray} (h : layB size l = true) (hr : ∀ x ∈ r, x ∈ l) : layB size r = true := by
  unfold layB at h ⊢
  rw [Bool.and_eq_true, allB_iff] at h ⊢
  exact ⟨h.1, fun x hx => h.2 x (hr x hx)⟩
theorem runs_short (m : Nat) (hm : 1 ≤ m) (u : Bool) : ∀ (f : Nat) (l : List ByteArray), l.length ≤ f → (runsT m u f l).length * m ≤ l.length + (m - 1)
  | 0, l, h => by
    have : l = [] := List.eq_nil_of_length_eq_zero (by omega)
    subst this
    simp [runsT]
  | f + 1, l, h => by
    by_cases hl : l = []
    · subst hl; simp [runsT]
    · have e : runsT m u (f + 1) l = sortT (l.take m) u :: runsT m u f (l.drop m) := by
        cases l with
        | nil => exact absurd rfl hl
        | cons a r => simp [runsT]
      have hpos : 0 < l.length := List.length_pos_iff.2 hl
      have ih := runs_short m hm u f (l.drop m) (by rw [List.length_drop]; omega)
      rw [List.length_drop] at ih
      rw [e, List.length_cons, Nat.add_mul, Nat.one_mul]
      by_cases hle : m ≤ l.length
      · omega
      · have h0 : l.drop m = [] := List.drop_of_length_le (by omega)
        rw [h0]
        cases f <;> simp [runsT] <;> omega
theorem XsJ.start {s0 s1 : St} {b0 b1 : Bu} {C inn out wo : ByteArray} {size m k : Int} {u : Bool} (hok0 : s0.ok) (free : ∀ n, isB n out.data.toList = true → s0.get n = Option.none) (hok1 : s1.ok) (hm : 1 ≤ m) (hCz : C.size ≤ 5000) (hw : ∀ i : Nat, isB (nameN wo (i : Int)).data.toList out.data.toList = true) (hr : ∀ i : Nat, i < 5000 → rightB (nameN wo (i : Int)).data.toList = true ∧ (nameN wo (i : Int)).size ≤ 24) (hR : FormR s0 b0 C inn wo size m u s1 b1 k 0) : ∃ L T, k = (T.length : Nat) ∧ XsJ s0 b0 C out size u L s1 b1 (runsW wo T) ∧ T.length ≤ L.length ∧ (T = [] → L = []) ∧ T.length * m.toNat ≤ L.length + (m.toNat - 1) ∧ L.length ≤ C.size := by
  obtain ⟨L, hL, hT⟩ := hR.yes rfl
  obtain ⟨r1, r2, r3, r4⟩ := runs_all m.toNat (by omega) u L.length L (Nat.le_refl _)
  have hLC := file_few hL
  have hsh := runs_short m.toNat (by omega) u L.length L (Nat.le_refl _)
  obtain ⟨T, eT⟩ : ∃ T, runsT m.toNat u L.length L = T := ⟨_, rfl⟩
  have hk := hT.k
  have hfile := hT.file
  have hoth := hT.oth
  rw [eT] at r1 r2 r3 r4 hk hfile hoth hsh
  have hlt : ∀ i : Nat, i < T.length → i < 5000 := fun i hi => by
    have h1 := lay_le hL.1
    have h6 : C.size = (layL size L).length := by rw [← hL.2]; rfl
    have h7 : (L.length : Int) * 1 ≤ L.length * size := Int.mul_le_mul_of_nonneg_left h1.2.1 (by omega)
    omega
  refine ⟨L, T, hk, ⟨hok0, free, hL, hok1, hR.now, hR.bm, ?_, fun p hp => ?_, fun p hp => ?_, fun n hn hne => ?_, ⟨fun n hn => ?_, hR.rest.room, hR.rest.cm⟩, fun p hp => ?_, ?_, ?_, ?_⟩, r4, fun e => ?_, hsh, hLC⟩
  · unfold runsW List.Nodup
    rw [List.map_map, List.pairwise_map]
    refine List.Pairwise.imp ?_ (List.nodup_range (n := T.length))
    intro i j hij e
    exact hij (name_inj (by rw [show nameN wo (i : Int) = nameN wo (j : Int) from e]))
  · obtain ⟨i, hi, _, e⟩ := runsW_mem hp
    rw [e]
    obtain ⟨q1, q2⟩ := hr i (hlt i hi)
    exact ⟨hw i, q1, q2⟩
  · obtain ⟨i, hi, hTi, e⟩ := runsW_mem hp
    rw [e]
    exact hfile i p.2 hTi
  · rw [hoth n fun i hi e => hne (nameN wo (i : Int), T.getD i []) (by unfold runsW; exact List.mem_map.2 ⟨i, List.mem_range.2 hi, rfl⟩) e]
    exact free n hn
  · exact hoth n fun i hi e => hn (by rw [e]; exact hw i)
  · obtain ⟨i, hi, hTi, e⟩ := runsW_mem hp
    obtain ⟨q1, q2⟩ := r3 p.2 (List.mem_of_getElem? hTi)
    exact ⟨q1, lay_mem hL.1 q2⟩
  · rw [runsW_snd]; exact r1
  · rw [runsW_snd]; exact r2
  · unfold runsW; rw [List.length_map, List.length_range]; omega
  · cases L with
    | nil => rfl
    | cons a r =>
      have : runsT m.toNat u (r.length + 1) (a :: r) = sortT ((a :: r).take m.toNat) u :: runsT m.toNat u r.length ((a :: r).drop m.toNat) := by simp [runsT]
      rw [show (a :: r).length = r.length + 1 from rfl, this] at eT
      rw [← eT] at e
      cases e
theorem XsJ.quiet {s0 : St} {b0 : Bu} {C out : ByteArray} {size : Int} {u : Bool} {L : List ByteArray} {s s' : St} {b : Bu} {W : Wq} (h : XsJ s0 b0 C out size u L s b W) (q : Quiet s s') (hok : s'.ok) : XsJ s0 b0 C out size u L s' b W :=
  ⟨h.ok0, h.free, h.file, hok, h.now, h.bm, h.nd, h.way, fun p hp => (h.has p hp).quiet q, fun n h1 h2 => by rw [q.get]; exact h.none n h1 h2, h.off.trans (off_quiet _ q), h.fix, h.all, h.few, h.wl⟩
theorem XsJ.last {s0 : St} {b0 : Bu} {C out : ByteArray} {size : Int} {u : Bool} {L : List ByteArray} {s : St} {b : Bu} {o : ByteArray} {l : List ByteArray} (h : XsJ s0 b0 C out size u L s b [(o, l)]) : l = sortT L u := by
  have h1 := h.all
  have h2 := (h.fix (o, l) (by simp)).1
  simp only [List.map_cons, List.map_nil, List.flatten_cons, List.flatten_nil, List.append_nil] at h1
  rw [← h1]; exact h2.symm
theorem XsJ.rename {s0 : St} {b0 : Bu} {C inn out : ByteArray} {size : Int} {u : Bool} {L : List ByteArray} {s : St} {b : Bu} {o : ByteArray} {l : List ByteArray} (h : XsJ s0 b0 C out size u L s b [(o, l)]) (ho24 : out.data.toList.length ≤ 24) (h16 : 16 ≤ b0.m - b0.now) {Q : St × Int} (hQ : renameR s o.data.toList out.data.toList = Q) (hc : Q.1.calls ≤ s0.calls + 1000000000) :
    (Q.2 = 0 ∧ SortR s0 b0 C inn out size u Q.1 b (l.length : Nat) (sumN l : Nat) 0) ∨ (Q.2 ≠ 0 ∧ SortR s0 b0 C inn out size u Q.1 b 0 0 Q.2) := by
  have hl := h.last
  obtain ⟨w1, _, _⟩ := h.way (o, l) (by simp)
  have hhas := h.has (o, l) (by simp)
  have hne : o.data.toList ≠ out.data.toList := fun e => by
    have w2 : isB o.data.toList out.data.toList = true := w1
    rw [e, is_not] at w2
    cases w2
  have hoffr := off_rename s o.data.toList out.data.toList
  have hcd := rename_code (b := out.data.toList) hhas
  have hok := ok_rename h.ok o.data.toList ho24
  rw [hQ] at hoffr hcd hok
  have hoff : Off (fun n => n = out.data.toList ∨ isB n out.data.toList = true) s0 Q.1 := (h.off.more fun n hn => .inr hn).trans (hoffr.more fun n hn => by
    rcases hn with hn | hn
    · right; rw [hn]; exact w1
    · exact .inl hn)
  rcases hcd with ⟨h0, g1, g2, g3⟩ | ⟨h5, hd⟩
  · left
    refine ⟨h0, fun k => absurd rfl k, hok, h.now, h.bm, hc, fun n k1 k2 => hoff.get n (fun k => k.elim k1 (fun k3 => by rw [k2] at k3; cases k3)), fun k => by omega, fun _ => ⟨L, h.file, ?_, by rw [hl], by rw [hl], fun n hn => ?_⟩, fun _ _ _ => .inl rfl, fun L' hL' _ a1 a2 _ _ _ => ⟨rfl, hoff.cm a1 a2⟩⟩
    · rw [← hl]; exact g1
    · by_cases e : n = o.data.toList
      · rw [e]; exact g2 hne
      · rw [hoffr.get n (fun k => k.elim e fun k2 => by rw [k2, is_not] at hn; cases hn)]
        refine h.none n hn fun p hp => ?_
        rw [List.mem_singleton.1 hp]; exact e
  · right
    refine ⟨by rw [h5]; decide, xs_err (by rw [h5]; decide) hok h.now h.bm hc hoff (fun k => by omega) (fun _ _ _ => .inr h5) fun L' hL' _ a1 _ _ _ => ?_⟩
    have := (calm_call (h.calm a1)).2
    rw [hd] at this
    cases this
end XsPlain
end Go.Proofs.YtjplkmmhjfpdaaaGreatDoor
/- The document's runs; a row of one's own of slices of strings. -/
namespace Go.Proofs.YtjplkmmhjfpdaaaGreatDoor
open Go.RowKit RnPlain
set_option linter.unusedVariables false
set_option linter.unusedSimpArgs false
set_option maxRecDepth 20000
theorem Lies.kept {w w' : World} {row : Option Nat} {v : Value} {l : List ByteArray} (h : Lies w v l) (hg : w.grownBy w' row) (hne : ∀ a n c, v = .slice (some a) n c → row ≠ some a.block) : Lies w' v l := by
  obtain ⟨a, c, rfl, hc, h⟩ := h
  refine ⟨a, c, rfl, hc, h.imp id ?_⟩
  rintro ⟨b, off, rfl, hr⟩
  have hb := hne _ _ _ rfl
  exact ⟨b, off, rfl, Nat.lt_of_lt_of_le hr.1 hg.size, fun j x hj => by rw [hg.cell_far ⟨b, off + j, none⟩ hr.1 (fun e => hb e.symm)]; exact hr.2 j x hj⟩
theorem runsT_nil (m : Nat) (u : Bool) : ∀ f, runsT m u f [] = []
  | 0 => rfl
  | f + 1 => rfl
theorem runsT_step {m : Nat} {u : Bool} {f : Nat} {l : List ByteArray} (h : l ≠ []) : runsT m u (f + 1) l = sortT (l.take m) u :: runsT m u f (l.drop m) := by
  cases l with
  | nil => exact absurd rfl h
  | cons x r => rfl
end Go.Proofs.YtjplkmmhjfpdaaaGreatDoor
/- Plain facts: the runs by their places; what holds while they are formed. -/
namespace Go.Proofs.YtjplkmmhjfpdaaaGreatDoor
open Go.RowKit FsPlain CrcPlain OctPlain FramePlain RecPlain RdPlain RnPlain WrPlain
set_option linter.unusedVariables false
set_option linter.unusedSimpArgs false
set_option maxRecDepth 20000
def runAt (m : Nat) (u : Bool) (l : List ByteArray) (i : Nat) : List ByteArray := sortT ((l.drop (i * m)).take m) u
theorem runs_at {m : Nat} (hm : 1 ≤ m) (u : Bool) : ∀ (f : Nat) (l : List ByteArray) (i : Nat), l.length ≤ f → (runsT m u f l)[i]? = if i * m < l.length then some (runAt m u l i) else none
  | 0, l, i, h => by
    have : l = [] := List.eq_nil_of_length_eq_zero (by omega)
    subst this
    simp [runsT]
  | f + 1, l, i, h => by
    by_cases hl : l = []
    · subst hl; rw [runsT_nil]; simp
    · have hpos : 1 ≤ l.length := by
        cases l with
        | nil => exact absurd rfl hl
        | cons x r => simp
      rw [runsT_step hl]
      cases i with
      | zero =>
        rw [List.getElem?_cons_zero, Nat.zero_mul, if_pos (by omega)]
        unfold runAt
        rw [Nat.zero_mul, List.drop_zero]
      | succ i =>
        rw [List.getElem?_cons_succ, runs_at hm u f (l.drop m) i (by rw [List.length_drop]; omega), List.length_drop]
        have e : (i + 1) * m = m + i * m := by rw [Nat.succ_mul]; omega
        by_cases hc : i * m < l.length - m
        · rw [if_pos hc, if_pos (by rw [e]; omega)]
          unfold runAt
          rw [List.drop_drop, e]
        · rw [if_neg hc, if_neg (by rw [e]; omega)]
theorem runs_len {m : Nat} (hm : 1 ≤ m) (u : Bool) {l : List ByteArray} {k : Nat} (h1 : k = 0 → l = []) (h2 : 1 ≤ k → (k - 1) * m < l.length) (h3 : l.length ≤ k * m) : (runsT m u l.length l).length = k := by
  have hk : ∀ i, i < (runsT m u l.length l).length ↔ i * m < l.length := by
    intro i
    have := runs_at hm u l.length l i (Nat.le_refl _)
    constructor
    · intro hi
      rw [List.getElem?_eq_getElem hi] at this
      by_cases hc : i * m < l.length
      · exact hc
      · rw [if_neg hc] at this; cases this
    · intro hc
      rw [if_pos hc] at this
      exact (List.getElem?_eq_some_iff.1 this).1
  rcases Nat.lt_trichotomy (runsT m u l.length l).length k with h | h | h
  · have := (hk (k - 1)).2 (h2 (by omega))
    omega
  · exact h
  · have := (hk k).1 h
    omega
theorem runAt_more {m : Nat} {u : Bool} {l r : List ByteArray} {i : Nat} (h : (i + 1) * m ≤ l.length) : runAt m u (l ++ r) i = runAt m u l i := by
  unfold runAt
  rw [Nat.succ_mul] at h
  rw [List.drop_append_of_le_length (by omega), List.take_append_of_le_length (by rw [List.length_drop]; omega)]
theorem runAt_last {m : Nat} {u : Bool} {l r : List ByteArray} {k : Nat} (h : l.length = k * m) (hr : r.length ≤ m) : runAt m u (l ++ r) k = sortT r u := by
  unfold runAt
  rw [← h, List.drop_left, List.take_of_length_le hr]
structure Formed (s0 s : St) (out : ByteArray) (size : Int) (m : Nat) (u : Bool) (l : List ByteArray) (k : Nat) : Prop where
  file : ∀ i, i < k → HasD s (nameN out (i : Int)).data.toList (bs (layL size (runAt m u l i)))
  oth : ∀ n, (∀ i : Nat, i < k → n ≠ (nameN out (i : Int)).data.toList) → s.get n = s0.get n
  len : s.fs.length = s0.fs.length + k
  room : s.room = s0.room
  cm : s0.down = false → s0.ahead = -1 → s.down = false ∧ s.ahead = -1
theorem formed_zero (s0 : St) (out : ByteArray) (size : Int) (m : Nat) (u : Bool) : Formed s0 s0 out size m u [] 0 := ⟨fun i hi => by omega, fun _ _ => rfl, rfl, rfl, fun a b => ⟨a, b⟩⟩
theorem Formed.quiet {s0 s s' : St} {out : ByteArray} {size : Int} {m : Nat} {u : Bool} {l : List ByteArray} {k : Nat} (h : Formed s0 s out size m u l k) (q : Quiet s s') : Formed s0 s' out size m u l k :=
  ⟨fun i hi => (h.file i hi).quiet q, fun n hn => (q.get n).trans (h.oth n hn), by rw [q.fs]; exact h.len, q.room.trans h.room, fun a b => by obtain ⟨x, y⟩ := h.cm a b; exact q.calm x y⟩
theorem Formed.read {s0 s : St} {out : ByteArray} {size : Int} {m : Nat} {u : Bool} {l : List ByteArray} {k : Nat} (h : Formed s0 s out size m u l k) (hk : k * m ≤ l.length) (r : List ByteArray) : Formed s0 s out size m u (l ++ r) k :=
  ⟨fun i hi => by
    rw [runAt_more (Nat.le_trans (Nat.mul_le_mul_right m (by omega : i + 1 ≤ k)) hk)]
    exact h.file i hi, h.oth, h.len, h.room, h.cm⟩
theorem Formed.step {s0 s s' : St} {out : ByteArray} {size : Int} {m : Nat} {u : Bool} {l : List ByteArray} {k : Nat} (h : Formed s0 s out size m u l k) (hn : ∀ i j : Nat, i ≤ k → j ≤ k → i ≠ j → (nameN out (i : Int)).data.toList ≠ (nameN out (j : Int)).data.toList) (o : Oth (nameN out (k : Int)).data.toList 1 s s') (hf : HasD s' (nameN out (k : Int)).data.toList (bs (layL size (runAt m u l k)))) : Formed s0 s' out size m u l (k + 1) := by
  refine ⟨fun i hi => ?_, fun n hne => ?_, by rw [o.len, h.len]; omega, o.room.trans h.room, fun a b => by obtain ⟨x, y⟩ := h.cm a b; exact o.calm x y⟩
  · by_cases e : i = k
    · subst e; exact hf
    · obtain ⟨f, h1, h2⟩ := h.file i (by omega)
      exact ⟨f, by rw [o.get _ (hn i k (by omega) (Nat.le_refl _) e)]; exact h1, h2⟩
  · rw [o.get n (hne k (by omega))]
    exact h.oth n fun i hi => hne i (by omega)
theorem formed_all {s0 s : St} {out : ByteArray} {size m : Int} {u : Bool} {L : List ByteArray} {k : Nat} (hm : 1 ≤ m) (h : Formed s0 s out size m.toNat u L k) (h1 : k = 0 → L = []) (h2 : 1 ≤ k → (k - 1) * m.toNat < L.length) (h3 : L.length ≤ k * m.toNat) : RunsOf s0 s out size m u L (k : Int) := by
  have hl := runs_len (m := m.toNat) (by omega) u h1 h2 h3
  refine ⟨by rw [hl], fun i l hi => ?_, by rw [hl]; exact h.len, fun n hn => h.oth n fun i hi => hn i (by rw [hl]; exact hi)⟩
  have hlt := (List.getElem?_eq_some_iff.1 hi).1
  rw [hl] at hlt
  rw [runs_at (by omega) u _ _ _ (Nat.le_refl _)] at hi
  split at hi
  · cases hi; exact h.file i hlt
  · cases hi
end Go.Proofs.YtjplkmmhjfpdaaaGreatDoor
