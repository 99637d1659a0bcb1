/- In one text: RnJ. -/
import Derived.Test.YtdlomcgkpiejgaaGreatDoorP25
import Derived.Test.YtdlomcgkpiejgaaGreatDoorP37
import Derived.Test.YtdlomcgkpiejgaaGreatDoorP38
/- Plain facts: what holds while Form's loop goes, and what it comes to behind each way out. -/
namespace Go.Proofs.YtdlomcgkpiejgaaGreatDoor
open Go.RowKit FsPlain CrcPlain OctPlain FramePlain RecPlain RdPlain RnPlain WrPlain
set_option linter.unusedVariables false
set_option linter.unusedSimpArgs false
set_option maxRecDepth 20000
/-- What is read of a file is no more than what is in it. -/
theorem read_few : ∀ (f : Nat) {m : N3} {C : ByteArray} {nn : Int} {got L : List ByteArray}, C.size ≤ got.length + f → ReadF m C nn got → m.s.down = false → m.s.ahead = -1 → C.size ≤ 100000 → IsFile nn C L → got.length ≤ L.length
  | 0, m, C, nn, got, L, hf, h, _, _, _, _ => by have := h.few; omega
  | f + 1, m, C, nn, got, L, hf, h, hd, ha, hC, hL => by
    rcases readF_next h hC with ⟨_, _, hm⟩ | ⟨_, _, hl⟩
    · obtain ⟨h1, h2⟩ := hm.disk.calm hd ha
      have := read_few f (by rw [List.length_append, List.length_singleton]; omega) hm.rd h1 h2 hC hL
      rw [List.length_append, List.length_singleton] at this
      omega
    · rcases hl.how with ⟨_, h1, _⟩ | ⟨_, h1⟩ | ⟨_, h1⟩
      · rw [file_one hL h1]; exact Nat.le_refl _
      · exact absurd hL (h1 L)
      · exact absurd ⟨hd, ha⟩ h1
theorem file_sizes {nn : Int} {C : ByteArray} {L : List ByteArray} (h : IsFile nn C L) : ∀ r ∈ L, (r.size : Int) = nn := by
  have h1 := h.1
  unfold layB at h1
  rw [Bool.and_eq_true, allB_iff] at h1
  exact fun r hr => h1.2 r hr
/-- While the loop goes: i runs are there of what was read. -/
structure FoJ (s : St) (b : Bu) (C inn out : ByteArray) (size m : Int) (u : Bool) (i : Nat) (got : List ByteArray) (r : N3) : Prop where
  ok : r.ok
  inv : r.inv
  nm : r.x.nm = inn
  told : r.x.told ≤ 50000
  fm : Formed s r.s out size m.toNat u got i
  bm : r.b.m = b.m
  few : got.length ≤ 3000 ∧ i ≤ got.length
  calls : r.s.calls ≤ s.calls + 10 + 2 * (got.length : Int) + 11 * (i : Int)
  calm : s.down = false → s.ahead = -1 → m + 8 ≤ b.m - b.now → ∀ L, IsFile size C L → L.length ≤ 100 → s.fs.length ≤ 50 → (used s.fs : Int) + 100 * (L.length : Nat) ≤ s.room → WrPlain.Calm r.s ∧ used r.s.fs ≤ used s.fs + 28 * i + 69 * got.length
  how : (ReadF r C size got ∧ r.b.now = b.now + m + 4 ∧ got.length = i * m.toNat) ∨ (r.x.opn = false ∧ r.x.bad = false ∧ IsFile size C got ∧ r.b.now = b.now + m ∧ 1 ≤ i ∧ (i - 1) * m.toNat < got.length ∧ got.length ≤ i * m.toNat)
/-- The budget behind the reader's Close and Form's Give. -/
theorem close_bud {r : N3} {b : Bu} {m : Int} (hm : 1 ≤ m) (hb : b.ok) (h : (r.x.opn = true ∧ r.b.now = b.now + m + 4) ∨ (r.x.opn = false ∧ r.b.now = b.now + m)) : (closeN r).s = r.s ∧ ((closeN r).b.give m).now = b.now ∧ ((closeN r).b.give m).m = r.b.m := by
  have h0 := hb.n0
  rcases h with ⟨ho, hn⟩ | ⟨ho, hn⟩
  · have e : closeN r = ⟨r.s, r.b.give 4, { r.x with bad := true, opn := false }⟩ := by unfold closeN wrongN shutN; rw [if_pos ho, if_pos (show r.isBad.x.opn = true from ho)]; rfl
    rw [e]
    refine ⟨rfl, ?_, ?_⟩
    · unfold Bu.give
      rw [if_neg (by omega), if_neg (by omega)]
      simp only []
      omega
    · unfold Bu.give
      rw [if_neg (by omega), if_neg (by omega)]
  · have e : closeN r = r := by unfold closeN; rw [if_neg (by rw [ho]; decide)]
    rw [e]
    refine ⟨rfl, ?_, ?_⟩
    · unfold Bu.give
      rw [if_neg (by omega)]
      simp only []
      omega
    · unfold Bu.give
      rw [if_neg (by omega)]
theorem give_now {b : Bu} {n : Int} (h : 0 ≤ n) : (b.give n).now = b.now - min n b.now ∧ (b.give n).m = b.m := by
  unfold Bu.give
  rw [if_neg (by omega)]
  exact ⟨rfl, rfl⟩
theorem take_yes {b : Bu} {n : Int} (h : b.takeE n = 0) (h0 : 0 ≤ n) : n ≤ b.m - b.now ∧ (b.take n).now = b.now + n ∧ (b.take n).m = b.m := by
  unfold Bu.takeE at h
  rw [if_neg (by omega)] at h
  split at h
  · cases h
  · unfold Bu.take
    rw [if_neg (by omega)]
    exact ⟨by omega, rfl, rfl⟩
theorem take_no {b : Bu} {n : Int} (h : b.takeE n ≠ 0) : b.take n = b ∧ (0 ≤ n → b.m - b.now < n ∧ b.takeE n = 9) := by
  unfold Bu.takeE at h ⊢
  unfold Bu.take
  split at h
  · rename_i h1
    exact ⟨by rw [if_pos (.inl h1)], fun k => absurd h1 (by omega)⟩
  · split at h
    · rename_i h1 h2
      refine ⟨by rw [if_pos (.inr h2)], fun k => ⟨h2, ?_⟩⟩
      rw [if_neg h1, if_pos h2]
    · exact absurd rfl h
/-- A way out with an error. -/
theorem form_err {s : St} {b : Bu} {C inn out : ByteArray} {size m : Int} {u : Bool} {r : N3} {er : Int} (hm : 1 ≤ m) (hb : b.ok) (he : er ≠ 0) (hbm : r.b.m = b.m) (hc : r.s.calls ≤ s.calls + 1000000)
    (hn : (r.x.opn = true ∧ r.b.now = b.now + m + 4) ∨ (r.x.opn = false ∧ r.b.now = b.now + m))
    (hcode : ∀ L, IsFile size C L → m + 8 ≤ b.m - b.now → er = 0 ∨ er = 4 ∨ er = 5)
    (hcalm : ∀ L, IsFile size C L → m + 8 ≤ b.m - b.now → s.down = false → s.ahead = -1 → L.length ≤ 100 → s.fs.length ≤ 50 → (used s.fs : Int) + 100 * (L.length : Nat) ≤ s.room → False) :
    FormR s b C inn out size m u (closeN r).s ((closeN r).b.give m) 0 er := by
  obtain ⟨h1, h2, h3⟩ := close_bud hm hb hn
  exact ⟨fun _ => rfl, h2, h3.trans hbm, by rw [h1]; exact hc, fun k => absurd hm (by omega), fun k => absurd k he, fun L hL _ hr => hcode L hL hr, fun L hL _ hr hd ha hl hf hu => (hcalm L hL hr hd ha hl hf hu).elim⟩
/-- All runs are there. -/
theorem form_yes {s : St} {b : Bu} {C inn out : ByteArray} {size m : Int} {u : Bool} {i : Nat} {got : List ByteArray} {r : N3} (hm : 1 ≤ m) (hb : b.ok) (hfm : Formed s r.s out size m.toNat u got i) (hbm : r.b.m = b.m) (hc : r.s.calls ≤ s.calls + 1000000)
    (hcalm : s.down = false → s.ahead = -1 → m + 8 ≤ b.m - b.now → ∀ L, IsFile size C L → L.length ≤ 100 → s.fs.length ≤ 50 → (used s.fs : Int) + 100 * (L.length : Nat) ≤ s.room → WrPlain.Calm r.s) (hF : IsFile size C got)
    (hn : (r.x.opn = true ∧ r.b.now = b.now + m + 4) ∨ (r.x.opn = false ∧ r.b.now = b.now + m)) (h1 : i = 0 → got = []) (h2 : 1 ≤ i → (i - 1) * m.toNat < got.length) (h3 : got.length ≤ i * m.toNat) :
    FormR s b C inn out size m u (closeN r).s ((closeN r).b.give m) (i : Int) 0 := by
  obtain ⟨k1, k2, k3⟩ := close_bud hm hb hn
  refine ⟨fun k => absurd rfl k, k2, k3.trans hbm, by rw [k1]; exact hc, fun k => absurd hm (by omega), fun _ => ⟨got, hF, ?_⟩, fun _ _ _ _ => .inl rfl, fun L hL _ hr hd ha hl hf hu => ?_⟩
  · rw [k1]; exact formed_all hm hfm h1 h2 h3
  · obtain ⟨c1, c2⟩ := hcalm hd ha hr L hL hl hf hu
    rw [k1]
    exact ⟨rfl, c1, c2⟩
/-- Behind a gather, with some records more. -/
structure FoK (s : St) (b : Bu) (C inn out : ByteArray) (size m : Int) (u : Bool) (i : Nat) (got l : List ByteArray) (r : N3) : Prop where
  ok : r.ok
  inv : r.inv
  nm : r.x.nm = inn
  told : r.x.told ≤ 50000
  fm : Formed s r.s out size m.toNat u got i
  full : got.length = i * m.toNat
  bm : r.b.m = b.m
  few : (got ++ l).length ≤ 3000 ∧ i ≤ got.length ∧ 1 ≤ l.length
  calls : r.s.calls ≤ s.calls + 11 + 2 * (got.length : Int) + (l.length : Int) + 11 * (i : Int)
  calm : s.down = false → s.ahead = -1 → m + 8 ≤ b.m - b.now → ∀ L, IsFile size C L → L.length ≤ 100 → s.fs.length ≤ 50 → (used s.fs : Int) + 100 * (L.length : Nat) ≤ s.room → WrPlain.Calm r.s ∧ used r.s.fs ≤ used s.fs + 28 * i + 69 * got.length ∧ (got ++ l).length ≤ L.length
  how : (ReadF r C size (got ++ l) ∧ r.b.now = b.now + m + 4 ∧ l.length = m.toNat) ∨ (r.x.opn = false ∧ r.x.bad = false ∧ IsFile size C (got ++ l) ∧ r.b.now = b.now + m ∧ l.length < m.toNat)
theorem FoK.sizes {s : St} {b : Bu} {C inn out : ByteArray} {size m : Int} {u : Bool} {i : Nat} {got l : List ByteArray} {r : N3} (h : FoK s b C inn out size m u i got l r) : ∀ x ∈ l, (x.size : Int) = size := by
  intro x hx
  rcases h.how with ⟨h1, _⟩ | ⟨_, _, h1, _⟩
  · exact h1.sizes x (List.mem_append_right _ hx)
  · exact file_sizes h1 x (List.mem_append_right _ hx)
theorem FoK.now {s : St} {b : Bu} {C inn out : ByteArray} {size m : Int} {u : Bool} {i : Nat} {got l : List ByteArray} {r : N3} (h : FoK s b C inn out size m u i got l r) : (r.x.opn = true ∧ r.b.now = b.now + m + 4) ∨ (r.x.opn = false ∧ r.b.now = b.now + m) := by
  rcases h.how with ⟨h1, h2, _⟩ | ⟨h1, _, _, h2, _⟩
  · exact .inl ⟨h1.opn, h2⟩
  · exact .inr ⟨h1, h2⟩
theorem FoK.name {s : St} {b : Bu} {C inn out : ByteArray} {size m : Int} {u : Bool} {i : Nat} {got l : List ByteArray} {r : N3} (h : FoK s b C inn out size m u i got l r) (hn : Names16 s inn out) : rightB (nameN out (i : Int)).data.toList = true ∧ (nameN out (i : Int)).size ≤ 24 ∧ nameN out (i : Int) ≠ inn ∧ r.s.get (nameN out (i : Int)).data.toList = none := by
  obtain ⟨f1, f2, f3⟩ := h.few
  rw [List.length_append] at f1
  obtain ⟨n1, n2, n3, n4⟩ := hn i (by omega)
  refine ⟨n1, n2, n3, ?_⟩
  rw [h.fm.oth _ fun j hj e => ?_]
  · exact n4
  · have := name_inj e
    omega
theorem bm_lay {s s' : St} {b b' : Bu} {nm : ByteArray} {nn er : Int} {l : List ByteArray} (hb : b.ok) (h : LayR s b nm nn l s' b' er) : b'.now = b.now ∧ b'.m = b.m ∧ b'.ok := by
  have key : b.takeE 4 = 0 → ((b.take 4).give 4).now = b.now ∧ ((b.take 4).give 4).m = b.m := fun h0 => by
    obtain ⟨_, h1, h2⟩ := take_yes h0 (by decide)
    obtain ⟨h3, h4⟩ := give_now (b := b.take 4) (n := 4) (by decide)
    have := hb.n0
    rw [h3, h4, h1, h2]
    exact ⟨by omega, rfl⟩
  rcases h.1 with ⟨_, h0, _, rfl, _⟩ | ⟨he, h0, _, rfl⟩ | ⟨_, _, h0, rfl, _⟩
  · obtain ⟨h1, h2⟩ := key h0
    exact ⟨h1, h2, Bu.give_ok (Bu.take_ok hb 4) 4⟩
  · rw [(take_no (n := 4) (by rw [← he]; exact h0)).1]
    exact ⟨rfl, rfl, hb⟩
  · obtain ⟨h1, h2⟩ := key h0
    exact ⟨h1, h2, Bu.give_ok (Bu.take_ok hb 4) 4⟩
/-- Behind a run that was written. -/
theorem FoK.step {s : St} {b : Bu} {C inn out : ByteArray} {size m : Int} {u : Bool} {i : Nat} {got l : List ByteArray} {r : N3} (h : FoK s b C inn out size m u i got l r) (hm : 1 ≤ m) (hn : Names16 s inn out) (hC : HasD s inn.data.toList C) {s' : St} {b' : Bu} (hr : LayR r.s r.b (nameN out (i : Int)) size (sortT l u) s' b' 0) :
    FoJ s b C inn out size m u (i + 1) (got ++ l) ⟨s', b', r.x⟩ := by
  obtain ⟨f1, f2, f3⟩ := h.few
  obtain ⟨n1, n2, n3, n4⟩ := h.name hn
  obtain ⟨b1, b2, b3⟩ := bm_lay h.ok.b hr
  have hle := sortT_le l u
  rcases hr.1 with ⟨_, h0, hok, hb', ho, hd⟩ | ⟨he, h0, _⟩ | ⟨he, _⟩
  · have hlm : l.length ≤ m.toNat := by
      rcases h.how with ⟨_, _, e⟩ | ⟨_, _, _, _, e⟩ <;> omega
    have hin : HasD s' r.x.nm.data.toList C := by
      have hb : ∀ j : Nat, j < i → inn.data.toList ≠ (nameN out (j : Int)).data.toList := fun j hj e => by
        rw [List.length_append] at f1
        obtain ⟨_, _, k3, _⟩ := hn j (by omega)
        exact k3 (ByteArray.ext (Array.toList_inj.1 e.symm))
      obtain ⟨f, g1, g2⟩ := hC
      refine ⟨f, ?_, g2⟩
      rw [h.nm, ho.get _ (fun e => n3 (ByteArray.ext (Array.toList_inj.1 e.symm))), h.fm.oth _ hb]
      exact g1
    have hfm : Formed s s' out size m.toNat u (got ++ l) (i + 1) := by
      refine (h.fm.read (by rw [h.full]; exact Nat.le_refl _) l).step (fun j k _ _ hjk e => hjk (name_inj e)) ho ?_
      rw [runAt_last h.full hlm]
      exact hd
    refine ⟨?_, ?_, h.nm, h.told, hfm, b2.trans h.bm, ⟨f1, by rw [List.length_append]; omega⟩, ?_, fun a1 a2 a3 L hL a4 a5 a6 => ?_, ?_⟩
    · exact ⟨hok, b3, h.ok.n1, h.ok.n2, h.ok.z, h.ok.az, h.ok.fit, h.ok.cnt, h.ok.ql⟩
    · exact ⟨h.inv.o, h.inv.c, h.inv.e0, h.inv.e1⟩
    · have h1 := hr.2.2
      have h2 := h.calls
      show s'.calls ≤ _
      rw [List.length_append]
      omega
    · obtain ⟨c1, c2, c3⟩ := h.calm a1 a2 a3 L hL a4 a5 a6
      have hl := h.fm.len
      have hrm := h.fm.room
      rw [List.length_append] at c3 f1
      obtain ⟨_, d1, d2⟩ := hr.2.1 c1 h0 (by omega) (by rw [hrm]; omega)
      refine ⟨d1, ?_⟩
      show used s'.fs ≤ _
      rw [List.length_append]
      omega
    · rcases h.how with ⟨g1, g2, g3⟩ | ⟨g1, g2, g3, g4, g5⟩
      · refine .inl ⟨g1.other hin hok b3, by show b'.now = _; rw [b1]; exact g2, ?_⟩
        rw [List.length_append, h.full, g3, Nat.add_mul, Nat.one_mul]
      · refine .inr ⟨g1, g2, g3, by show b'.now = _; rw [b1]; exact g4, by omega, ?_, ?_⟩
        · rw [List.length_append, Nat.add_sub_cancel, h.full]; omega
        · rw [List.length_append, h.full, Nat.add_mul, Nat.one_mul]; omega
  · exact absurd rfl h0
  · rcases he with e | e <;> cases e
/-- Behind a run that could not be written. -/
theorem FoK.fail {s : St} {b : Bu} {C inn out : ByteArray} {size m : Int} {u : Bool} {i : Nat} {got l : List ByteArray} {r : N3} (h : FoK s b C inn out size m u i got l r) (hm : 1 ≤ m) (hb : b.ok) (hr8 : m + 8 ≤ b.m - b.now → True) {s' : St} {b' : Bu} {er : Int} (he : er ≠ 0) (hr : LayR r.s r.b (nameN out (i : Int)) size (sortT l u) s' b' er) :
    FormR s b C inn out size m u (closeN ⟨s', b', r.x⟩).s ((closeN ⟨s', b', r.x⟩).b.give m) 0 er := by
  obtain ⟨f1, f2, f3⟩ := h.few
  obtain ⟨b1, b2, b3⟩ := bm_lay h.ok.b hr
  have hle := sortT_le l u
  have hc1 := hr.2.2
  have hc2 := h.calls
  rw [List.length_append] at f1
  have h4 : m + 8 ≤ b.m - b.now → r.b.takeE 4 = 0 := fun k => by
    have : r.b.now ≤ b.now + m + 4 := by rcases h.now with ⟨_, e⟩ | ⟨_, e⟩ <;> omega
    have := h.bm
    unfold Bu.takeE
    rw [if_neg (by omega), if_neg (by omega)]
  refine form_err hm hb he (b2.trans h.bm) (by show s'.calls ≤ _; omega) ?_ (fun L hL k => ?_) (fun L hL k a1 a2 a3 a4 a5 => ?_)
  · rcases h.now with ⟨g1, g2⟩ | ⟨g1, g2⟩
    · exact .inl ⟨g1, by show b'.now = _; rw [b1]; exact g2⟩
    · exact .inr ⟨g1, by show b'.now = _; rw [b1]; exact g2⟩
  · rcases hr.1 with ⟨e, _⟩ | ⟨e, e0, _⟩ | ⟨e, _⟩
    · exact .inl e
    · rw [h4 k] at e; exact .inl e
    · exact .inr e
  · obtain ⟨c1, c2, c3⟩ := h.calm a1 a2 k L hL a3 a4 a5
    have hl := h.fm.len
    have hrm := h.fm.room
    rw [List.length_append] at c3
    exact he (hr.2.1 c1 (h4 k) (by omega) (by rw [hrm]; omega)).1
/-- What a gather makes of the loop's state. -/
theorem FoJ.gather {s : St} {b : Bu} {C inn out : ByteArray} {size m : Int} {u : Bool} {i : Nat} {got l : List ByteArray} {r r' : N3} {er : Int} (h : FoJ s b C inn out size m u i got r) (hm : 1 ≤ m) (hb : b.ok) (hC : C.size ≤ 3000) (hR : ReadF r C size got) (hnow : r.b.now = b.now + m + 4) (hfull : got.length = i * m.toNat) (hG : GaGot r r' C size got m l er) :
    (er = 0 ∧ 1 ≤ l.length ∧ FoK s b C inn out size m u i got l r') ∨ (er = 0 ∧ l = [] ∧ FormR s b C inn out size m u (closeN r').s ((closeN r').b.give m) (i : Int) 0) ∨ (er ≠ 0 ∧ FormR s b C inn out size m u (closeN r').s ((closeN r').b.give m) 0 er) := by
  obtain ⟨f1, f2⟩ := h.few
  have hcl := h.calls
  have hq := hG.disk
  have hfm := h.fm.quiet hq
  have hnm : r'.x.nm = inn := hG.nm.trans h.nm
  have hb0 := hb.n0
  have gv := give_now (b := r.b) (n := 4) (by decide)
  have hshut : r'.b = r.b.give 4 → r'.b.now = b.now + m ∧ r'.b.m = b.m := fun e => by
    rw [e, gv.1, gv.2, hnow]
    exact ⟨by omega, h.bm⟩
  have hcalm : s.down = false → s.ahead = -1 → m + 8 ≤ b.m - b.now → ∀ L, IsFile size C L → L.length ≤ 100 → s.fs.length ≤ 50 → (used s.fs : Int) + 100 * (L.length : Nat) ≤ s.room → WrPlain.Calm r'.s ∧ used r'.s.fs ≤ used s.fs + 28 * i + 69 * got.length := fun a1 a2 a3 L hL a4 a5 a6 => by
    obtain ⟨⟨c1, c2⟩, c3⟩ := h.calm a1 a2 a3 L hL a4 a5 a6
    exact ⟨hq.calm c1 c2, by rw [hq.fs]; exact c3⟩
  have hnone : (∀ L, ¬ IsFile size C L) → ∀ L, IsFile size C L → False := fun k L hL => k L hL
  rcases hG.how with ⟨e0, e1, e2, e3⟩ | ⟨e0, e1, e2, e3, e4, e5⟩ | ⟨e0, e1, e2, e3, e4⟩ | ⟨e0, e1, e2, e3, e4⟩
  · left
    have hfew := e2.few
    obtain ⟨hc2, hc3⟩ := hG.few e0
    refine ⟨e0, by omega, hG.ok, hG.inv, hnm, hG.told, hfm, hfull, by rw [e3]; exact h.bm, ⟨by omega, f2, by omega⟩, by omega, fun a1 a2 a3 L hL a4 a5 a6 => ?_, .inl ⟨e2, by rw [e3]; exact hnow, by omega⟩⟩
    obtain ⟨c1, c2⟩ := hcalm a1 a2 a3 L hL a4 a5 a6
    exact ⟨c1, c2, read_few C.size (by omega) e2 c1.1 c1.2 (by omega) hL⟩
  · obtain ⟨hc2, hc3⟩ := hG.few e0
    obtain ⟨g1, g2⟩ := hshut e5
    have hlen : (got ++ l).length ≤ 3000 := by omega
    by_cases hl : l = []
    · right; left
      subst hl
      rw [List.append_nil] at e4
      refine ⟨e0, rfl, form_yes hm hb hfm g2 (by rw [List.length_nil] at hc2; omega) (fun a1 a2 a3 L hL a4 a5 a6 => (hcalm a1 a2 a3 L hL a4 a5 a6).1) e4 (.inr ⟨e2, g1⟩) (fun k => ?_) (fun k => ?_) (by rw [hfull]; exact Nat.le_refl _)⟩
      · rw [k, Nat.zero_mul] at hfull
        exact List.eq_nil_of_length_eq_zero hfull
      · rw [hfull]
        exact (Nat.mul_lt_mul_right (by omega)).2 (by omega)
    · left
      have hl1 : 1 ≤ l.length := by
        cases l with
        | nil => exact absurd rfl hl
        | cons a c => simp
      refine ⟨e0, hl1, hG.ok, hG.inv, hnm, hG.told, hfm, hfull, g2, ⟨hlen, f2, hl1⟩, by omega, fun a1 a2 a3 L hL a4 a5 a6 => ?_, .inr ⟨e2, e3, e4, g1, by omega⟩⟩
      obtain ⟨c1, c2⟩ := hcalm a1 a2 a3 L hL a4 a5 a6
      exact ⟨c1, c2, by rw [file_one hL e4]; exact Nat.le_refl _⟩
  · right; right
    obtain ⟨g1, g2⟩ := hshut e4
    have hc4 := hG.calls
    refine ⟨by rw [e0]; decide, form_err hm hb (by rw [e0]; decide) g2 (by omega) (.inr ⟨e2, g1⟩) (fun L hL _ => absurd hL (e3 L)) fun L hL _ _ _ _ _ _ => e3 L hL⟩
  · right; right
    obtain ⟨g1, g2⟩ := hshut e4
    have hc4 := hG.calls
    refine ⟨by rw [e0]; decide, form_err hm hb (by rw [e0]; decide) g2 (by omega) (.inr ⟨e2, g1⟩) (fun L hL _ => .inr (.inr e0)) fun L hL a3 a1 a2 a4 a5 a6 => e3 ?_⟩
    obtain ⟨c1, _⟩ := h.calm a1 a2 a3 L hL a4 a5 a6
    exact c1
/-- Behind the end of a reader that was over. -/
theorem FoJ.over {s : St} {b : Bu} {C inn out : ByteArray} {size m : Int} {u : Bool} {i : Nat} {got : List ByteArray} {r : N3} (h : FoJ s b C inn out size m u i got r) (hm : 1 ≤ m) (hb : b.ok) (ho : r.x.opn = false) :
    FormR s b C inn out size m u (closeN r).s ((closeN r).b.give m) (i : Int) 0 := by
  obtain ⟨f1, f2⟩ := h.few
  have hc := h.calls
  rcases h.how with ⟨g1, _⟩ | ⟨_, _, g3, g4, g5, g6, g7⟩
  · rw [g1.opn] at ho; cases ho
  · exact form_yes hm hb h.fm h.bm (by omega) (fun a1 a2 a3 L hL a4 a5 a6 => (h.calm a1 a2 a3 L hL a4 a5 a6).1) g3 (.inr ⟨ho, g4⟩) (fun k => by omega) (fun _ => g6) g7
/-- At the start. -/
theorem foJ_start {s : St} {b : Bu} {C inn out : ByteArray} {size m : Int} {u : Bool} {s1 : St} {b1 b2 : Bu} {left : Nat} (hm : 1 ≤ m) (ht : b.takeE m = 0) (hb1 : b1 = b.take m) (h4 : b1.takeE 4 = 0) (hb2 : b2 = b1.take 4) (hq : Quiet s s1) (hc : s1.calls ≤ s.calls + 10) (hR : ReadF ⟨s1, b2, newRs inn size left⟩ C size []) : FoJ s b C inn out size m u 0 [] ⟨s1, b2, newRs inn size left⟩ := by
  obtain ⟨_, t1, t2⟩ := take_yes ht (by omega)
  subst hb1
  obtain ⟨_, t3, t4⟩ := take_yes h4 (by decide)
  subst hb2
  refine ⟨hR.ok, hR.inv, rfl, Nat.zero_le _, (formed_zero _ _ _ _ _).quiet hq, t4.trans t2, ⟨Nat.zero_le _, Nat.le_refl _⟩, ?_, fun a1 a2 _ L _ _ _ _ => ?_, .inl ⟨hR, ?_, ?_⟩⟩
  · show s1.calls ≤ _; simp; omega
  · refine ⟨hq.calm a1 a2, ?_⟩
    show used s1.fs ≤ _
    rw [hq.fs]; omega
  · show ((b.take m).take 4).now = _; rw [t3, t1]
  · simp
/-- Open fails. -/
theorem form_open {s : St} {b : Bu} {C inn out : ByteArray} {size m : Int} {u : Bool} {R : St × Bu × Int × Nat} (hm : 1 ≤ m) (hb : b.ok) (ht : b.takeE m = 0) (hc : R.1.calls ≤ s.calls + 10) (he : R.2.2.1 ≠ 0) (h : NoOpen s (b.take m) C size R) : FormR s b C inn out size m u R.1 (R.2.1.give m) 0 R.2.2.1 := by
  obtain ⟨_, t1, t2⟩ := take_yes ht (by omega)
  have hb0 := hb.n0
  have key : ∀ b1 : Bu, b1.now = b.now + m → b1.m = b.m → (b1.give m).now = b.now ∧ (b1.give m).m = b.m := fun b1 k1 k2 => by
    obtain ⟨g1, g2⟩ := give_now (b := b1) (n := m) (by omega)
    rw [g1, g2, k1, k2]
    exact ⟨by omega, rfl⟩
  have kb : (R.2.1.give m).now = b.now ∧ (R.2.1.give m).m = b.m := by
    rcases h.how with ⟨_, e, _⟩ | ⟨_, e0, e⟩ | ⟨e0, e, _⟩
    · rw [e]; exact key _ t1 t2
    · rw [e, (take_no e0).1]; exact key _ t1 t2
    · obtain ⟨_, t3, t4⟩ := take_yes e0 (by decide)
      obtain ⟨g1, g2⟩ := give_now (b := (b.take m).take 4) (n := 4) (by decide)
      rw [e]
      exact key _ (by rw [g1, t3, t1]; omega) (by rw [g2, t4, t2])
  have hcode : ∀ L, IsFile size C L → m + 8 ≤ b.m - b.now → R.2.2.1 = 5 ∧ ¬ (s.down = false ∧ s.ahead = -1) := fun L hL k => by
    rcases h.how with ⟨_, _, e⟩ | ⟨_, e0, _⟩ | ⟨_, _, ⟨_, e⟩ | e⟩
    · exact absurd hL (e L)
    · obtain ⟨k1, _⟩ := (take_no e0).2 (by decide)
      omega
    · exact absurd hL (e L)
    · exact e
  exact ⟨fun _ => rfl, kb.1, kb.2, by omega, fun k => absurd hm (by omega), fun k => absurd k he, fun L hL _ k => .inr (.inr (hcode L hL k).1), fun L hL _ k a1 a2 _ _ _ => absurd ⟨a1, a2⟩ (hcode L hL k).2⟩
/-- No room for m. -/
theorem form_take {s : St} {b : Bu} {C inn out : ByteArray} {size m : Int} {u : Bool} (hm : 1 ≤ m) (ht : b.takeE m ≠ 0) : FormR s b C inn out size m u s (b.take m) 0 (b.takeE m) := by
  obtain ⟨h1, h2⟩ := take_no ht
  obtain ⟨h3, h4⟩ := h2 (by omega)
  rw [h1]
  exact ⟨fun _ => rfl, rfl, rfl, by omega, fun k => absurd hm (by omega), fun k => absurd k ht, fun L hL _ k => by omega, fun L hL _ k _ _ _ _ _ => by omega⟩
/-- m is not one. -/
theorem form_arg {s : St} {b : Bu} {C inn out : ByteArray} {size m : Int} {u : Bool} (hm : ¬ 1 ≤ m) : FormR s b C inn out size m u s b 0 1 :=
  ⟨fun _ => rfl, rfl, rfl, by omega, fun _ => rfl, (fun k => by cases k), fun L hL k _ => absurd k hm, fun L hL k _ _ _ _ _ _ => absurd k hm⟩
end Go.Proofs.YtdlomcgkpiejgaaGreatDoor
