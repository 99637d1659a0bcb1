/- In one text: RnJ, Itoa, RnName. -/
import Derived.Test.YtjplkmmhjfpdaaaGreatDoorQ26
import Derived.Test.YtjplkmmhjfpdaaaGreatDoorQ27
import Derived.Shelf.Strconv.Itoa0
import Derived.Shelf.Strconv.Itoa1
import Derived.Shelf.LaysM
import Derived.Shelf.Strconv.Itoa2
import Derived.Shelf.Strconv.Itoa3
import Derived.Lib.LaidTab
import Derived.LaidSub
import Derived.Stop.LaidErr
import Derived.Test.YtjplkmmhjfpdaaaGreatDoorQ09
import Derived.Test.YtjplkmmhjfpdaaaGreatDoorQ12
/- Plain facts: what holds while Form's loop goes, and what it comes to behind each way out. -/
namespace Go.Proofs.YtjplkmmhjfpdaaaGreatDoor
open Go.RowKit FsPlain CrcPlain OctPlain FramePlain RecPlain RdPlain RnPlain WrPlain
set_option linter.unusedVariables false
set_option linter.unusedSimpArgs false
set_option maxRecDepth 20000
theorem read_few : ∀ (f : Nat) {m : N3} {C : ByteArray} {nn : Int} {got L : List ByteArray}, C.size ≤ got.length + f → ReadF m C nn got → m.s.down = false → m.s.ahead = -1 → C.size ≤ 100000 → IsFile nn C L → got.length ≤ L.length
  | 0, m, C, nn, got, L, hf, h, _, _, _, _ => by have := h.few; omega
  | f + 1, m, C, nn, got, L, hf, h, hd, ha, hC, hL => by
    rcases readF_next h hC with ⟨_, _, hm⟩ | ⟨_, _, hl⟩
    · obtain ⟨h1, h2⟩ := hm.disk.calm hd ha
      have := read_few f (by rw [List.length_append, List.length_singleton]; omega) hm.rd h1 h2 hC hL
      rw [List.length_append, List.length_singleton] at this
      omega
    · rcases hl.how with ⟨_, h1, _⟩ | ⟨_, h1⟩ | ⟨_, h1⟩
      · rw [file_one hL h1]; exact Nat.le_refl _
      · exact absurd hL (h1 L)
      · exact absurd ⟨hd, ha⟩ h1
theorem file_sizes {nn : Int} {C : ByteArray} {L : List ByteArray} (h : IsFile nn C L) : ∀ r ∈ L, (r.size : Int) = nn := by
  have h1 := h.1
  unfold layB at h1
  rw [Bool.and_eq_true, allB_iff] at h1
  exact fun r hr => h1.2 r hr
structure FoJ (s : St) (b : Bu) (C inn out : ByteArray) (size m : Int) (u : Bool) (i : Nat) (got : List ByteArray) (r : N3) : Prop where
  ok : r.ok
  inv : r.inv
  nm : r.x.nm = inn
  told : r.x.told ≤ 50000
  fm : Formed s r.s out size m.toNat u got i
  bm : r.b.m = b.m
  few : got.length ≤ 5000 ∧ i ≤ got.length
  calls : r.s.calls ≤ s.calls + 10 + 2 * (got.length : Int) + 11 * (i : Int)
  calm : s.down = false → s.ahead = -1 → m + 8 ≤ b.m - b.now → ∀ L, IsFile size C L → L.length ≤ 100 → s.fs.length ≤ 50 → (used s.fs : Int) + 100 * (L.length : Nat) ≤ s.room → WrPlain.Calm r.s ∧ used r.s.fs ≤ used s.fs + 28 * i + 69 * got.length
  how : (ReadF r C size got ∧ r.b.now = b.now + m + 4 ∧ got.length = i * m.toNat) ∨ (r.x.opn = false ∧ r.x.bad = false ∧ IsFile size C got ∧ r.b.now = b.now + m ∧ 1 ≤ i ∧ (i - 1) * m.toNat < got.length ∧ got.length ≤ i * m.toNat)
theorem close_bud {r : N3} {b : Bu} {m : Int} (hm : 1 ≤ m) (hb : b.ok) (h : (r.x.opn = true ∧ r.b.now = b.now + m + 4) ∨ (r.x.opn = false ∧ r.b.now = b.now + m)) : (closeN r).s = r.s ∧ ((closeN r).b.give m).now = b.now ∧ ((closeN r).b.give m).m = r.b.m := by
  have h0 := hb.n0
  rcases h with ⟨ho, hn⟩ | ⟨ho, hn⟩
  · have e : closeN r = ⟨r.s, r.b.give 4, { r.x with bad := true, opn := false }⟩ := by unfold closeN wrongN shutN; rw [if_pos ho, if_pos (show r.isBad.x.opn = true from ho)]; rfl
    rw [e]
    refine ⟨rfl, ?_, ?_⟩
    · unfold Bu.give
      rw [if_neg (by omega), if_neg (by omega)]
      simp only []
      omega
    · unfold Bu.give
      rw [if_neg (by omega), if_neg (by omega)]
  · have e : closeN r = r := by unfold closeN; rw [if_neg (by rw [ho]; decide)]
    rw [e]
    refine ⟨rfl, ?_, ?_⟩
    · unfold Bu.give
      rw [if_neg (by omega)]
      simp only []
      omega
    · unfold Bu.give
      rw [if_neg (by omega)]
theorem form_err {s : St} {b : Bu} {C inn out : ByteArray} {size m : Int} {u : Bool} {r : N3} {er : Int} (hm : 1 ≤ m) (hb : b.ok) (he : er ≠ 0) (hbm : r.b.m = b.m) (hc : r.s.calls ≤ s.calls + 1000000)
    (hn : (r.x.opn = true ∧ r.b.now = b.now + m + 4) ∨ (r.x.opn = false ∧ r.b.now = b.now + m))
    (hO : FormO s r.s out) (hcode : ∀ L, IsFile size C L → m + 8 ≤ b.m - b.now → er = 0 ∨ er = 4 ∨ er = 5)
    (hcalm : ∀ L, IsFile size C L → m + 8 ≤ b.m - b.now → s.down = false → s.ahead = -1 → L.length ≤ 100 → s.fs.length ≤ 50 → (used s.fs : Int) + 100 * (L.length : Nat) ≤ s.room → False) :
    FormR s b C inn out size m u (closeN r).s ((closeN r).b.give m) 0 er := by
  obtain ⟨h1, h2, h3⟩ := close_bud hm hb hn
  exact ⟨fun _ => rfl, h2, h3.trans hbm, by rw [h1]; exact hc, fun k => absurd hm (by omega), fun k => absurd k he, fun L hL _ hr => hcode L hL hr, fun L hL _ hr hd ha hl hf hu => (hcalm L hL hr hd ha hl hf hu).elim, by rw [h1]; exact hO, fun L hL _ hr hd ha hl hf hu => (hcalm L hL hr hd ha hl hf hu).elim⟩
theorem Formed.o {s s' : St} {out : ByteArray} {size : Int} {m : Nat} {u : Bool} {l : List ByteArray} {k : Nat} (h : Formed s s' out size m u l k) (hk : k ≤ 5000) : FormO s s' out :=
  ⟨fun n hn => h.oth n fun i _ => hn i, h.room, h.cm, by rw [h.len]; omega⟩
theorem form_yes {s : St} {b : Bu} {C inn out : ByteArray} {size m : Int} {u : Bool} {i : Nat} {got : List ByteArray} {r : N3} (hm : 1 ≤ m) (hb : b.ok) (hfm : Formed s r.s out size m.toNat u got i) (hbm : r.b.m = b.m) (hc : r.s.calls ≤ s.calls + 1000000)
    (hcalm : s.down = false → s.ahead = -1 → m + 8 ≤ b.m - b.now → ∀ L, IsFile size C L → L.length ≤ 100 → s.fs.length ≤ 50 → (used s.fs : Int) + 100 * (L.length : Nat) ≤ s.room → WrPlain.Calm r.s ∧ used r.s.fs ≤ used s.fs + 28 * i + 69 * got.length) (hig : i ≤ got.length ∧ i ≤ 5000) (hF : IsFile size C got)
    (hn : (r.x.opn = true ∧ r.b.now = b.now + m + 4) ∨ (r.x.opn = false ∧ r.b.now = b.now + m)) (h1 : i = 0 → got = []) (h2 : 1 ≤ i → (i - 1) * m.toNat < got.length) (h3 : got.length ≤ i * m.toNat) :
    FormR s b C inn out size m u (closeN r).s ((closeN r).b.give m) (i : Int) 0 := by
  obtain ⟨k1, k2, k3⟩ := close_bud hm hb hn
  refine ⟨fun k => absurd rfl k, k2, k3.trans hbm, by rw [k1]; exact hc, fun k => absurd hm (by omega), fun _ => ⟨got, hF, ?_⟩, fun _ _ _ _ => .inl rfl, fun L hL _ hr hd ha hl hf hu => ?_, by rw [k1]; exact hfm.o hig.2, fun L hL _ hr hd ha hl hf hu => ?_⟩
  · rw [k1]; exact formed_all hm hfm h1 h2 h3
  · obtain ⟨⟨c1, c2⟩, _⟩ := hcalm hd ha hr L hL hl hf hu
    rw [k1]
    exact ⟨rfl, c1, c2⟩
  · obtain ⟨_, c3⟩ := hcalm hd ha hr L hL hl hf hu
    rw [k1, file_one hL hF]
    omega
structure FoK (s : St) (b : Bu) (C inn out : ByteArray) (size m : Int) (u : Bool) (i : Nat) (got l : List ByteArray) (r : N3) : Prop where
  ok : r.ok
  inv : r.inv
  nm : r.x.nm = inn
  told : r.x.told ≤ 50000
  fm : Formed s r.s out size m.toNat u got i
  full : got.length = i * m.toNat
  bm : r.b.m = b.m
  few : (got ++ l).length ≤ 5000 ∧ i ≤ got.length ∧ 1 ≤ l.length
  calls : r.s.calls ≤ s.calls + 11 + 2 * (got.length : Int) + (l.length : Int) + 11 * (i : Int)
  calm : s.down = false → s.ahead = -1 → m + 8 ≤ b.m - b.now → ∀ L, IsFile size C L → L.length ≤ 100 → s.fs.length ≤ 50 → (used s.fs : Int) + 100 * (L.length : Nat) ≤ s.room → WrPlain.Calm r.s ∧ used r.s.fs ≤ used s.fs + 28 * i + 69 * got.length ∧ (got ++ l).length ≤ L.length
  how : (ReadF r C size (got ++ l) ∧ r.b.now = b.now + m + 4 ∧ l.length = m.toNat) ∨ (r.x.opn = false ∧ r.x.bad = false ∧ IsFile size C (got ++ l) ∧ r.b.now = b.now + m ∧ l.length < m.toNat)
theorem FoK.sizes {s : St} {b : Bu} {C inn out : ByteArray} {size m : Int} {u : Bool} {i : Nat} {got l : List ByteArray} {r : N3} (h : FoK s b C inn out size m u i got l r) : ∀ x ∈ l, (x.size : Int) = size := by
  intro x hx
  rcases h.how with ⟨h1, _⟩ | ⟨_, _, h1, _⟩
  · exact h1.sizes x (List.mem_append_right _ hx)
  · exact file_sizes h1 x (List.mem_append_right _ hx)
theorem FoK.now {s : St} {b : Bu} {C inn out : ByteArray} {size m : Int} {u : Bool} {i : Nat} {got l : List ByteArray} {r : N3} (h : FoK s b C inn out size m u i got l r) : (r.x.opn = true ∧ r.b.now = b.now + m + 4) ∨ (r.x.opn = false ∧ r.b.now = b.now + m) := by
  rcases h.how with ⟨h1, h2, _⟩ | ⟨h1, _, _, h2, _⟩
  · exact .inl ⟨h1.opn, h2⟩
  · exact .inr ⟨h1, h2⟩
theorem FoK.name {s : St} {b : Bu} {C inn out : ByteArray} {size m : Int} {u : Bool} {i : Nat} {got l : List ByteArray} {r : N3} (h : FoK s b C inn out size m u i got l r) (hn : Names16 s inn out) : rightB (nameN out (i : Int)).data.toList = true ∧ (nameN out (i : Int)).size ≤ 24 ∧ nameN out (i : Int) ≠ inn ∧ r.s.get (nameN out (i : Int)).data.toList = none := by
  obtain ⟨f1, f2, f3⟩ := h.few
  rw [List.length_append] at f1
  obtain ⟨n1, n2, n3, n4⟩ := hn i (by omega)
  refine ⟨n1, n2, n3, ?_⟩
  rw [h.fm.oth _ fun j hj e => ?_]
  · exact n4
  · have := name_inj e
    omega
theorem bm_lay {s s' : St} {b b' : Bu} {nm : ByteArray} {nn er : Int} {l : List ByteArray} (hb : b.ok) (h : LayR s b nm nn l s' b' er) : b'.now = b.now ∧ b'.m = b.m ∧ b'.ok := by
  have key : b.takeE 4 = 0 → ((b.take 4).give 4).now = b.now ∧ ((b.take 4).give 4).m = b.m := fun h0 => by
    obtain ⟨_, h1, h2⟩ := take_yes h0 (by decide)
    obtain ⟨h3, h4⟩ := give_now (b := b.take 4) (n := 4) (by decide)
    have := hb.n0
    rw [h3, h4, h1, h2]
    exact ⟨by omega, rfl⟩
  rcases h.1 with ⟨_, h0, _, rfl, _⟩ | ⟨he, h0, _, rfl⟩ | ⟨_, _, h0, rfl, _⟩
  · obtain ⟨h1, h2⟩ := key h0
    exact ⟨h1, h2, Bu.give_ok (Bu.take_ok hb 4) 4⟩
  · rw [(take_no (n := 4) (by rw [← he]; exact h0)).1]
    exact ⟨rfl, rfl, hb⟩
  · obtain ⟨h1, h2⟩ := key h0
    exact ⟨h1, h2, Bu.give_ok (Bu.take_ok hb 4) 4⟩
theorem FoK.step {s : St} {b : Bu} {C inn out : ByteArray} {size m : Int} {u : Bool} {i : Nat} {got l : List ByteArray} {r : N3} (h : FoK s b C inn out size m u i got l r) (hm : 1 ≤ m) (hn : Names16 s inn out) (hC : HasD s inn.data.toList C) {s' : St} {b' : Bu} (hr : LayR r.s r.b (nameN out (i : Int)) size (sortT l u) s' b' 0) :
    FoJ s b C inn out size m u (i + 1) (got ++ l) ⟨s', b', r.x⟩ := by
  obtain ⟨f1, f2, f3⟩ := h.few
  obtain ⟨n1, n2, n3, n4⟩ := h.name hn
  obtain ⟨b1, b2, b3⟩ := bm_lay h.ok.b hr
  have hle := sortT_le l u
  rcases hr.1 with ⟨_, h0, hok, hb', ho, hd⟩ | ⟨he, h0, _⟩ | ⟨he, _⟩
  · have hlm : l.length ≤ m.toNat := by
      rcases h.how with ⟨_, _, e⟩ | ⟨_, _, _, _, e⟩ <;> omega
    have hin : HasD s' r.x.nm.data.toList C := by
      have hb : ∀ j : Nat, j < i → inn.data.toList ≠ (nameN out (j : Int)).data.toList := fun j hj e => by
        rw [List.length_append] at f1
        obtain ⟨_, _, k3, _⟩ := hn j (by omega)
        exact k3 (ByteArray.ext (Array.toList_inj.1 e.symm))
      obtain ⟨f, g1, g2⟩ := hC
      refine ⟨f, ?_, g2⟩
      rw [h.nm, ho.get _ (fun e => n3 (ByteArray.ext (Array.toList_inj.1 e.symm))), h.fm.oth _ hb]
      exact g1
    have hfm : Formed s s' out size m.toNat u (got ++ l) (i + 1) := by
      refine (h.fm.read (by rw [h.full]; exact Nat.le_refl _) l).step (fun j k _ _ hjk e => hjk (name_inj e)) ho ?_
      rw [runAt_last h.full hlm]
      exact hd
    refine ⟨?_, ?_, h.nm, h.told, hfm, b2.trans h.bm, ⟨f1, by rw [List.length_append]; omega⟩, ?_, fun a1 a2 a3 L hL a4 a5 a6 => ?_, ?_⟩
    · exact ⟨hok, b3, h.ok.n1, h.ok.n2, h.ok.z, h.ok.az, h.ok.fit, h.ok.cnt, h.ok.ql⟩
    · exact ⟨h.inv.o, h.inv.c, h.inv.e0, h.inv.e1⟩
    · have h1 := hr.2.2
      have h2 := h.calls
      show s'.calls ≤ _
      rw [List.length_append]
      omega
    · obtain ⟨c1, c2, c3⟩ := h.calm a1 a2 a3 L hL a4 a5 a6
      have hl := h.fm.len
      have hrm := h.fm.room
      rw [List.length_append] at c3 f1
      obtain ⟨_, d1, d2⟩ := hr.2.1 c1 h0 (by omega) (by rw [hrm]; omega)
      refine ⟨d1, ?_⟩
      show used s'.fs ≤ _
      rw [List.length_append]
      omega
    · rcases h.how with ⟨g1, g2, g3⟩ | ⟨g1, g2, g3, g4, g5⟩
      · refine .inl ⟨g1.other hin hok b3, by show b'.now = _; rw [b1]; exact g2, ?_⟩
        rw [List.length_append, h.full, g3, Nat.add_mul, Nat.one_mul]
      · refine .inr ⟨g1, g2, g3, by show b'.now = _; rw [b1]; exact g4, by omega, ?_, ?_⟩
        · rw [List.length_append, Nat.add_sub_cancel, h.full]; omega
        · rw [List.length_append, h.full, Nat.add_mul, Nat.one_mul]; omega
  · exact absurd rfl h0
  · rcases he with e | e <;> cases e
theorem FoK.fail {s : St} {b : Bu} {C inn out : ByteArray} {size m : Int} {u : Bool} {i : Nat} {got l : List ByteArray} {r : N3} (h : FoK s b C inn out size m u i got l r) (hm : 1 ≤ m) (hb : b.ok) (hr8 : m + 8 ≤ b.m - b.now → True) {s' : St} {b' : Bu} {er : Int} (he : er ≠ 0) (hr : LayR r.s r.b (nameN out (i : Int)) size (sortT l u) s' b' er) :
    FormR s b C inn out size m u (closeN ⟨s', b', r.x⟩).s ((closeN ⟨s', b', r.x⟩).b.give m) 0 er := by
  obtain ⟨f1, f2, f3⟩ := h.few
  obtain ⟨b1, b2, b3⟩ := bm_lay h.ok.b hr
  have hle := sortT_le l u
  have hc1 := hr.2.2
  have hc2 := h.calls
  rw [List.length_append] at f1
  have h4 : m + 8 ≤ b.m - b.now → r.b.takeE 4 = 0 := fun k => by
    have : r.b.now ≤ b.now + m + 4 := by rcases h.now with ⟨_, e⟩ | ⟨_, e⟩ <;> omega
    have := h.bm
    unfold Bu.takeE
    rw [if_neg (by omega), if_neg (by omega)]
  have hO : FormO s s' out := by
    rcases hr.1 with ⟨e, _⟩ | ⟨_, _, e, _⟩ | ⟨_, _, _, _, d, hd, ho⟩
    · exact absurd e he
    · rw [e]; exact h.fm.o (by omega)
    · exact ⟨fun n hn => (ho.get n (hn i)).trans (h.fm.oth n fun j _ => hn j), ho.room.trans h.fm.room, fun a b => by obtain ⟨x, y⟩ := h.fm.cm a b; exact ho.calm x y, by rw [ho.len, h.fm.len]; omega⟩
  refine form_err hm hb he (b2.trans h.bm) (by show s'.calls ≤ _; omega) ?_ hO (fun L hL k => ?_) (fun L hL k a1 a2 a3 a4 a5 => ?_)
  · rcases h.now with ⟨g1, g2⟩ | ⟨g1, g2⟩
    · exact .inl ⟨g1, by show b'.now = _; rw [b1]; exact g2⟩
    · exact .inr ⟨g1, by show b'.now = _; rw [b1]; exact g2⟩
  · rcases hr.1 with ⟨e, _⟩ | ⟨e, e0, _⟩ | ⟨e, _⟩
    · exact .inl e
    · rw [h4 k] at e; exact .inl e
    · exact .inr e
  · obtain ⟨c1, c2, c3⟩ := h.calm a1 a2 k L hL a3 a4 a5
    have hl := h.fm.len
    have hrm := h.fm.room
    rw [List.length_append] at c3
    exact he (hr.2.1 c1 (h4 k) (by omega) (by rw [hrm]; omega)).1
theorem FoJ.gather {s : St} {b : Bu} {C inn out : ByteArray} {size m : Int} {u : Bool} {i : Nat} {got l : List ByteArray} {r r' : N3} {er : Int} (h : FoJ s b C inn out size m u i got r) (hm : 1 ≤ m) (hb : b.ok) (hC : C.size ≤ 5000) (hR : ReadF r C size got) (hnow : r.b.now = b.now + m + 4) (hfull : got.length = i * m.toNat) (hG : GaGot r r' C size got m l er) :
    (er = 0 ∧ 1 ≤ l.length ∧ FoK s b C inn out size m u i got l r') ∨ (er = 0 ∧ l = [] ∧ FormR s b C inn out size m u (closeN r').s ((closeN r').b.give m) (i : Int) 0) ∨ (er ≠ 0 ∧ FormR s b C inn out size m u (closeN r').s ((closeN r').b.give m) 0 er) := by
  obtain ⟨f1, f2⟩ := h.few
  have hcl := h.calls
  have hq := hG.disk
  have hfm := h.fm.quiet hq
  have hnm : r'.x.nm = inn := hG.nm.trans h.nm
  have hb0 := hb.n0
  have gv := give_now (b := r.b) (n := 4) (by decide)
  have hshut : r'.b = r.b.give 4 → r'.b.now = b.now + m ∧ r'.b.m = b.m := fun e => by
    rw [e, gv.1, gv.2, hnow]
    exact ⟨by omega, h.bm⟩
  have hcalm : s.down = false → s.ahead = -1 → m + 8 ≤ b.m - b.now → ∀ L, IsFile size C L → L.length ≤ 100 → s.fs.length ≤ 50 → (used s.fs : Int) + 100 * (L.length : Nat) ≤ s.room → WrPlain.Calm r'.s ∧ used r'.s.fs ≤ used s.fs + 28 * i + 69 * got.length := fun a1 a2 a3 L hL a4 a5 a6 => by
    obtain ⟨⟨c1, c2⟩, c3⟩ := h.calm a1 a2 a3 L hL a4 a5 a6
    exact ⟨hq.calm c1 c2, by rw [hq.fs]; exact c3⟩
  have hnone : (∀ L, ¬ IsFile size C L) → ∀ L, IsFile size C L → False := fun k L hL => k L hL
  rcases hG.how with ⟨e0, e1, e2, e3⟩ | ⟨e0, e1, e2, e3, e4, e5⟩ | ⟨e0, e1, e2, e3, e4⟩ | ⟨e0, e1, e2, e3, e4⟩
  · left
    have hfew := e2.few
    obtain ⟨hc2, hc3⟩ := hG.few e0
    refine ⟨e0, by omega, hG.ok, hG.inv, hnm, hG.told, hfm, hfull, by rw [e3]; exact h.bm, ⟨by omega, f2, by omega⟩, by omega, fun a1 a2 a3 L hL a4 a5 a6 => ?_, .inl ⟨e2, by rw [e3]; exact hnow, by omega⟩⟩
    obtain ⟨c1, c2⟩ := hcalm a1 a2 a3 L hL a4 a5 a6
    exact ⟨c1, c2, read_few C.size (by omega) e2 c1.1 c1.2 (by omega) hL⟩
  · obtain ⟨hc2, hc3⟩ := hG.few e0
    obtain ⟨g1, g2⟩ := hshut e5
    have hlen : (got ++ l).length ≤ 5000 := by omega
    by_cases hl : l = []
    · right; left
      subst hl
      rw [List.append_nil] at e4
      refine ⟨e0, rfl, form_yes hm hb hfm g2 (by rw [List.length_nil] at hc2; omega) (fun a1 a2 a3 L hL a4 a5 a6 => hcalm a1 a2 a3 L hL a4 a5 a6) ⟨f2, by omega⟩ e4 (.inr ⟨e2, g1⟩) (fun k => ?_) (fun k => ?_) (by rw [hfull]; exact Nat.le_refl _)⟩
      · rw [k, Nat.zero_mul] at hfull
        exact List.eq_nil_of_length_eq_zero hfull
      · rw [hfull]
        exact (Nat.mul_lt_mul_right (by omega)).2 (by omega)
    · left
      have hl1 : 1 ≤ l.length := by
        cases l with
        | nil => exact absurd rfl hl
        | cons a c => simp
      refine ⟨e0, hl1, hG.ok, hG.inv, hnm, hG.told, hfm, hfull, g2, ⟨hlen, f2, hl1⟩, by omega, fun a1 a2 a3 L hL a4 a5 a6 => ?_, .inr ⟨e2, e3, e4, g1, by omega⟩⟩
      obtain ⟨c1, c2⟩ := hcalm a1 a2 a3 L hL a4 a5 a6
      exact ⟨c1, c2, by rw [file_one hL e4]; exact Nat.le_refl _⟩
  · right; right
    obtain ⟨g1, g2⟩ := hshut e4
    have hc4 := hG.calls
    refine ⟨by rw [e0]; decide, form_err hm hb (by rw [e0]; decide) g2 (by omega) (.inr ⟨e2, g1⟩) (hfm.o (by omega)) (fun L hL _ => absurd hL (e3 L)) fun L hL _ _ _ _ _ _ => e3 L hL⟩
  · right; right
    obtain ⟨g1, g2⟩ := hshut e4
    have hc4 := hG.calls
    refine ⟨by rw [e0]; decide, form_err hm hb (by rw [e0]; decide) g2 (by omega) (.inr ⟨e2, g1⟩) (hfm.o (by omega)) (fun L hL _ => .inr (.inr e0)) fun L hL a3 a1 a2 a4 a5 a6 => e3 ?_⟩
    obtain ⟨c1, _⟩ := h.calm a1 a2 a3 L hL a4 a5 a6
    exact c1
theorem FoJ.over {s : St} {b : Bu} {C inn out : ByteArray} {size m : Int} {u : Bool} {i : Nat} {got : List ByteArray} {r : N3} (h : FoJ s b C inn out size m u i got r) (hm : 1 ≤ m) (hb : b.ok) (ho : r.x.opn = false) :
    FormR s b C inn out size m u (closeN r).s ((closeN r).b.give m) (i : Int) 0 := by
  obtain ⟨f1, f2⟩ := h.few
  have hc := h.calls
  rcases h.how with ⟨g1, _⟩ | ⟨_, _, g3, g4, g5, g6, g7⟩
  · rw [g1.opn] at ho; cases ho
  · exact form_yes hm hb h.fm h.bm (by omega) (fun a1 a2 a3 L hL a4 a5 a6 => h.calm a1 a2 a3 L hL a4 a5 a6) ⟨f2, by omega⟩ g3 (.inr ⟨ho, g4⟩) (fun k => by omega) (fun _ => g6) g7
theorem foJ_start {s : St} {b : Bu} {C inn out : ByteArray} {size m : Int} {u : Bool} {s1 : St} {b1 b2 : Bu} {left : Nat} (hm : 1 ≤ m) (ht : b.takeE m = 0) (hb1 : b1 = b.take m) (h4 : b1.takeE 4 = 0) (hb2 : b2 = b1.take 4) (hq : Quiet s s1) (hc : s1.calls ≤ s.calls + 10) (hR : ReadF ⟨s1, b2, newRs inn size left⟩ C size []) : FoJ s b C inn out size m u 0 [] ⟨s1, b2, newRs inn size left⟩ := by
  obtain ⟨_, t1, t2⟩ := take_yes ht (by omega)
  subst hb1
  obtain ⟨_, t3, t4⟩ := take_yes h4 (by decide)
  subst hb2
  refine ⟨hR.ok, hR.inv, rfl, Nat.zero_le _, (formed_zero _ _ _ _ _).quiet hq, t4.trans t2, ⟨Nat.zero_le _, Nat.le_refl _⟩, ?_, fun a1 a2 _ L _ _ _ _ => ?_, .inl ⟨hR, ?_, ?_⟩⟩
  · show s1.calls ≤ _; simp; omega
  · refine ⟨hq.calm a1 a2, ?_⟩
    show used s1.fs ≤ _
    rw [hq.fs]; omega
  · show ((b.take m).take 4).now = _; rw [t3, t1]
  · simp
theorem form_open {s : St} {b : Bu} {C inn out : ByteArray} {size m : Int} {u : Bool} {R : St × Bu × Int × Nat} (hm : 1 ≤ m) (hb : b.ok) (ht : b.takeE m = 0) (hc : R.1.calls ≤ s.calls + 10) (he : R.2.2.1 ≠ 0) (h : NoOpen s (b.take m) C size R) : FormR s b C inn out size m u R.1 (R.2.1.give m) 0 R.2.2.1 := by
  obtain ⟨_, t1, t2⟩ := take_yes ht (by omega)
  have hb0 := hb.n0
  have key : ∀ b1 : Bu, b1.now = b.now + m → b1.m = b.m → (b1.give m).now = b.now ∧ (b1.give m).m = b.m := fun b1 k1 k2 => by
    obtain ⟨g1, g2⟩ := give_now (b := b1) (n := m) (by omega)
    rw [g1, g2, k1, k2]
    exact ⟨by omega, rfl⟩
  have kb : (R.2.1.give m).now = b.now ∧ (R.2.1.give m).m = b.m := by
    rcases h.how with ⟨_, e, _⟩ | ⟨_, e0, e⟩ | ⟨e0, e, _⟩
    · rw [e]; exact key _ t1 t2
    · rw [e, (take_no e0).1]; exact key _ t1 t2
    · obtain ⟨_, t3, t4⟩ := take_yes e0 (by decide)
      obtain ⟨g1, g2⟩ := give_now (b := (b.take m).take 4) (n := 4) (by decide)
      rw [e]
      exact key _ (by rw [g1, t3, t1]; omega) (by rw [g2, t4, t2])
  have hcode : ∀ L, IsFile size C L → m + 8 ≤ b.m - b.now → R.2.2.1 = 5 ∧ ¬ (s.down = false ∧ s.ahead = -1) := fun L hL k => by
    rcases h.how with ⟨_, _, e⟩ | ⟨_, e0, _⟩ | ⟨_, _, ⟨_, e⟩ | e⟩
    · exact absurd hL (e L)
    · obtain ⟨k1, _⟩ := (take_no e0).2 (by decide)
      omega
    · exact absurd hL (e L)
    · exact e
  exact ⟨fun _ => rfl, kb.1, kb.2, by omega, fun k => absurd hm (by omega), fun k => absurd k he, fun L hL _ k => .inr (.inr (hcode L hL k).1), fun L hL _ k a1 a2 _ _ _ => absurd ⟨a1, a2⟩ (hcode L hL k).2, formO_quiet out h.disk, fun L hL _ k a1 a2 _ _ _ => absurd ⟨a1, a2⟩ (hcode L hL k).2⟩
theorem form_take {s : St} {b : Bu} {C inn out : ByteArray} {size m : Int} {u : Bool} (hm : 1 ≤ m) (ht : b.takeE m ≠ 0) : FormR s b C inn out size m u s (b.take m) 0 (b.takeE m) := by
  obtain ⟨h1, h2⟩ := take_no ht
  obtain ⟨h3, h4⟩ := h2 (by omega)
  rw [h1]
  exact ⟨fun _ => rfl, rfl, rfl, by omega, fun k => absurd hm (by omega), fun k => absurd k ht, fun L hL _ k => by omega, fun L hL _ k _ _ _ _ _ => by omega, formO_refl s out, fun L hL _ k _ _ _ _ _ => by omega⟩
theorem form_arg {s : St} {b : Bu} {C inn out : ByteArray} {size m : Int} {u : Bool} (hm : ¬ 1 ≤ m) : FormR s b C inn out size m u s b 0 1 :=
  ⟨fun _ => rfl, rfl, rfl, by omega, fun _ => rfl, (fun k => by cases k), fun L hL k _ => absurd k hm, fun L hL k _ _ _ _ _ _ => absurd k hm, formO_refl s out, fun L hL k _ _ _ _ _ _ => absurd k hm⟩
end Go.Proofs.YtjplkmmhjfpdaaaGreatDoor
/- strconv.Itoa: the library's contract, laid at this program's numbers; the table that it reads; a run's name. -/
namespace Go.Proofs.YtjplkmmhjfpdaaaGreatDoor
open Go.RowKit Go.Shelf Go.Sort
set_option linter.unusedVariables false
set_option linter.unusedSimpArgs false
set_option maxRecDepth 20000
def itoaM_ren : Go.Shelf.Ren := ⟨fun | 171 => 119 | 243 => 145 | 246 => 176 | 283 => 195 | 284 => 196 | 285 => 197 | 286 => 198 | 129 => 162 | 317 => 208 | 318 => 209 | 319 => 210 | 320 => 211 | 337 => 218 | 338 => 219 | n => n, fun | 3 => 3 | 9 => 9 | 2 => 2 | 4 => 4 | 171 => 224 | 0 => 0 | 53 => 192 | 37 => 71 | 5 => 5 | 173 => 226 | 212 => 235 | 51 => 35 | 20 => 20 | 213 => 236 | 46 => 124 | 232 => 245 | 233 => 246 | n => n, fun | 17 => 3 | 18 => 4 | 19 => 5 | n => n⟩
theorem itoaM : Go.Proofs.LaysM.n171 Tryz.prog itoaM_ren := {
  mixed := by kernel_rfl
  f129 := Tryz.func162.trans (congrArg some (by kernel_rfl))
  f171 := Tryz.func119.trans (congrArg some (by kernel_rfl))
  f243 := Tryz.func145.trans (congrArg some (by kernel_rfl))
  f246 := Tryz.func176.trans (congrArg some (by kernel_rfl))
  f283 := Tryz.func195.trans (congrArg some (by kernel_rfl))
  f284 := Tryz.func196.trans (congrArg some (by kernel_rfl))
  f285 := Tryz.func197.trans (congrArg some (by kernel_rfl))
  f286 := Tryz.func198.trans (congrArg some (by kernel_rfl))
  f317 := Tryz.func208.trans (congrArg some (by kernel_rfl))
  f318 := Tryz.func209.trans (congrArg some (by kernel_rfl))
  f319 := Tryz.func210.trans (congrArg some (by kernel_rfl))
  f320 := Tryz.func211.trans (congrArg some (by kernel_rfl))
  f337 := Tryz.func218.trans (congrArg some (by kernel_rfl))
  f338 := Tryz.func219.trans (congrArg some (by kernel_rfl))
  t0 := Tryz.underlying0
  a0 := Tryz.isAgg0
  z0 := Tryz.sizeOf0
  v0 := Tryz.zeroValue0
  t2 := Tryz.underlying2
  a2 := Tryz.isAgg2
  z2 := Tryz.sizeOf2
  v2 := Tryz.zeroValue2
  t3 := Tryz.underlying3
  a3 := Tryz.isAgg3
  z3 := Tryz.sizeOf3
  v3 := Tryz.zeroValue3
  t4 := Tryz.underlying4
  a4 := Tryz.isAgg4
  z4 := Tryz.sizeOf4
  v4 := Tryz.zeroValue4
  t5 := Tryz.underlying5
  a5 := Tryz.isAgg5
  z5 := Tryz.sizeOf5
  v5 := Tryz.zeroValue5
  t9 := Tryz.underlying9
  a9 := Tryz.isAgg9
  z9 := Tryz.sizeOf9
  v9 := Tryz.zeroValue9
  t20 := Tryz.underlying20
  a20 := Tryz.isAgg20
  z20 := Tryz.sizeOf20
  v20 := Tryz.zeroValue20
  t37 := Tryz.underlying71
  a37 := Tryz.isAgg71
  z37 := Tryz.sizeOf71
  v37 := Tryz.zeroValue71
  t46 := Tryz.underlying124
  a46 := Tryz.isAgg124
  z46 := Tryz.sizeOf124
  v46 := Tryz.zeroValue124
  t51 := Tryz.underlying35
  a51 := Tryz.isAgg35
  z51 := Tryz.sizeOf35
  v51 := Tryz.zeroValue35
  t53 := Tryz.underlying192
  a53 := Tryz.isAgg192
  z53 := Tryz.sizeOf192
  v53 := Tryz.zeroValue192
  t171 := Tryz.underlying224
  a171 := Tryz.isAgg224
  z171 := Tryz.sizeOf224
  v171 := Tryz.zeroValue224
  t173 := Tryz.underlying226
  a173 := Tryz.isAgg226
  z173 := Tryz.sizeOf226
  v173 := Tryz.zeroValue226
  t212 := Tryz.underlying235
  a212 := Tryz.isAgg235
  z212 := Tryz.sizeOf235
  v212 := Tryz.zeroValue235
  t213 := Tryz.underlying236
  a213 := Tryz.isAgg236
  z213 := Tryz.sizeOf236
  t232 := Tryz.underlying245
  a232 := Tryz.isAgg245
  z232 := Tryz.sizeOf245
  v232 := Tryz.zeroValue245
  t233 := Tryz.underlying246
  a233 := Tryz.isAgg246
  z233 := Tryz.sizeOf246
  v233 := Tryz.zeroValue246
  g17 := by kernel_rfl
  g18 := by kernel_rfl
  g19 := by kernel_rfl
  i0 := by kernel_rfl
  i2 := by kernel_rfl
  i3 := by kernel_rfl
  i4 := by kernel_rfl
  i5 := by kernel_rfl
  i9 := by kernel_rfl
  i20 := by kernel_rfl
  i37 := by kernel_rfl
  i46 := by kernel_rfl
  i51 := by kernel_rfl
  i53 := by kernel_rfl
  i171 := by kernel_rfl
  i173 := by kernel_rfl
  i212 := by kernel_rfl
  i232 := by kernel_rfl
  i233 := by kernel_rfl
  m17 := by kernel_rfl
  m18 := by kernel_rfl
  m19 := by kernel_rfl }
def Tab (w : World) : Prop := ∃ T fr, w.heap[3]? = some (.cells (Lib.pow10Tab.map fun z => Value.int .u64 z).toArray T fr)
theorem tabIs_of {P : Program} {w : World} {name : String} {k : IntKind} {zs : List Int} {g : Nat} (hg : P.globalNamed name = some g) (h : ∃ T fr, w.heap[g]? = some (.cells (zs.map fun z => Value.int k z).toArray T fr)) : Lib.TabIs P w name k zs := by
  obtain ⟨T, fr, h⟩ := h
  unfold Lib.TabIs World.var?
  rw [hg]
  simp only [Option.bind_some, h]
theorem of_tabIs {P : Program} {w : World} {name : String} {k : IntKind} {zs : List Int} {g : Nat} (hg : P.globalNamed name = some g) (h : Lib.TabIs P w name k zs) : ∃ T fr, w.heap[g]? = some (.cells (zs.map fun z => Value.int k z).toArray T fr) := by
  unfold Lib.TabIs World.var? at h
  rw [hg] at h
  simp only [Option.bind_some] at h
  split at h
  · rename_i cs T fr hb
    simp only [Option.some.injEq] at h
    exact ⟨T, fr, by rw [hb, h]⟩
  · cases h
theorem Tab.lt {w : World} (h : Tab w) : 3 < w.heap.size := by
  obtain ⟨T, fr, h⟩ := h
  exact (Array.getElem?_eq_some_iff.1 h).1
theorem Tab.only {w w' : World} {B : Nat → Prop} (h : Tab w) (o : Only B w w') (hB : ¬ B 3) : Tab w' := by
  have hl := h.lt
  obtain ⟨T, fr, h⟩ := h
  exact ⟨T, fr, by rw [o.block _ hl hB]; exact h⟩
theorem Tab.gr {w w' : World} (h : Tab w) (g : Gr w w') : Tab w' := h.only (Only.ofGr (B := fun _ => False) g) id
structure TabB (w : World) (B : Nat → Prop) : Prop where
  tab : Tab w
  out : ¬ B 3
theorem TabB.nx {w w' : World} {B B' : Nat → Prop} (h : TabB w B) (n : Nx B w B' w') : TabB w' B' :=
  ⟨h.tab.only n.only h.out, fun k => by
    rcases n.new _ k with h1 | h1
    · exact h.out h1
    · have := h.tab.lt; omega⟩
theorem tabB_none {w : World} (h : Tab w) : TabB w (fun _ => False) := ⟨h, id⟩
theorem tab_of {l : List (String × DataW Unit)} {x y : String × DataW Unit} {name : String} {d : DataW Unit} {rest : List (String × DataW Unit)} {w : World} (h : laidMetH Tryz.prog l w) (hf : (l.filter fun x => x.2.handleName?.isNone) = x :: y :: (name, d) :: rest) (hd : d = Lib.tabData .u64 Lib.pow10Tab) (hn : Tryz.prog.globalNamed name = some 3) : Tab w := by
  have h1 := (laidMetH_iff.1 h).1
  rw [hf, hd] at h1
  exact of_tabIs hn (Lib.tabIs_of_head (t := 235) (e := 192) (n := 20) hn (by kernel_rfl) (by kernel_rfl) (by kernel_rfl) (by kernel_rfl) (by kernel_rfl) h1.tail.tail)
theorem itoa_c (i : Int) (h0 : -9223372036854775808 ≤ i) (h1 : i ≤ 9223372036854775807) (w : World) (h : Tab w) :
    Calls Tryz.prog 119 #[.int .i64 i] w fun e w' => e = .returned (.string (bs (Lib.itoa i))) ∧ Gr w w' :=
  (Any.strconv_Itoa itoaM i h0 h1 w (tabIs_of (by kernel_rfl) h)).mono fun e w' hh => by
    obtain ⟨he, k, os, rfl⟩ := hh
    exact ⟨he, rfl, rfl, rfl, by simp, fun b hb => by rw [heap_grow_old _ _ (by simpa using hb)]; rfl⟩
end Go.Proofs.YtjplkmmhjfpdaaaGreatDoor
/- A run's name. -/
namespace Go.Proofs.YtjplkmmhjfpdaaaGreatDoor
open Go.RowKit RnPlain
set_option linter.unusedVariables false
set_option linter.unusedSimpArgs false
set_option maxRecDepth 20000
theorem dec_digB : ∀ (f n : Nat), n < f → Lib.decDigits n = digB n
  | f + 1, n, h => by
    by_cases h10 : n < 10
    · rw [digB_small h10, Lib.decDigits, dif_pos h10]
    · rw [digB_big h10, Lib.decDigits, dif_neg h10, dec_digB f (n / 10) (by omega)]
theorem itoa_digB {i : Int} (h : 0 ≤ i) : Lib.itoa i = digB i.toNat := by
  unfold Lib.itoa
  rw [if_neg (by omega)]
  exact dec_digB (i.toNat + 1) _ (by omega)
theorem name16_c (s : ByteArray) (i : Int) (hi : i ≤ 1000000) (hs : s.size ≤ 100000) (w : World) (hT : Tab w) :
    Calls Tryz.prog 97 #[.string s, .int .i64 i] w fun e w' => e = .returned (.string (nameN s i)) ∧ Gr w w' := by
  by_cases h : i < 0
  · have e : nameN s i = ⟨#[]⟩ := by unfold nameN; rw [if_pos h]
    rw [e]
    clear e hs hT
    go_enter Tryz.func97, Tryz.ntmps97
    go_wp2_with fail
    go_ret
    exact ⟨rfl, Gr.refl _⟩
  · have h0 : 0 ≤ i := by omega
    have CI := Lib.hid (fun (u : World) (g : Gr w u) => itoa_c i (by omega) (by omega) u (hT.gr g))
    have hz : (digB i.toNat).length ≤ 1000001 := Nat.le_trans (digB_le (i.toNat + 1) _ (by omega)) (by omega)
    have e : nameN s i = (s ++ bs [46]) ++ bs (digB i.toNat) := by unfold nameN; rw [if_neg h]
    have E := Lib.hid e
    rw [itoa_digB h0] at CI
    obtain ⟨d, hd⟩ : ∃ d, d = bs (digB i.toNat) := ⟨_, rfl⟩
    have hdz : d.size ≤ 1000001 := by rw [hd]; simpa [bs, ByteArray.size] using hz
    have e2 : nameN s i = (s ++ bs [46]) ++ d := by rw [e, hd]
    have E2 := Lib.hid e2
    rw [← hd] at CI
    obtain ⟨s1, hs1⟩ : ∃ s1, s1 = s ++ (⟨#[46]⟩ : ByteArray) := ⟨_, rfl⟩
    clear hz e e2 hd hT E
    go_enter Tryz.func97, Tryz.ntmps97
    go_wp2_with fail
    refine (CI.out _ (Gr.refl _)).mono ?_; rintro e u ⟨rfl, g⟩
    go_wp2_with fail
    go_ret
    rw [E2.out]
    exact ⟨rfl, g⟩
end Go.Proofs.YtjplkmmhjfpdaaaGreatDoor
