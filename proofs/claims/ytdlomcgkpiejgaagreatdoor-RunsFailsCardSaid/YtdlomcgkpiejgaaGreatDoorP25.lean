/- In one text: RnRef3, RnStep, Row. -/
import Derived.Test.YtdlomcgkpiejgaaGreatDoorP24
import Derived.Test.YtdlomcgkpiejgaaGreatDoorP16
import Derived.Test.YtdlomcgkpiejgaaGreatDoorP22
import Derived.Test.YtdlomcgkpiejgaaGreatDoorP18
import Derived.Test.YtdlomcgkpiejgaaGreatDoorP00
import Derived.Maps.AppendAt
/- The document's runs; a row of one's own of slices of strings. -/
namespace Go.Proofs.YtdlomcgkpiejgaaGreatDoor
open Go.RowKit RnPlain
set_option linter.unusedVariables false
set_option linter.unusedSimpArgs false
set_option maxRecDepth 20000
theorem infoSS : (Tryz.prog.info? 22).map (fun i => (i.zero, i.size, i.bytes)) = some (some (.slice none 0 0), 1, 24) := by kernel_rfl
theorem Lies.kept {w w' : World} {row : Option Nat} {v : Value} {l : List ByteArray} (h : Lies w v l) (hg : w.grownBy w' row) (hne : ∀ a n c, v = .slice (some a) n c → row ≠ some a.block) : Lies w' v l := by
  obtain ⟨a, c, rfl, hc, h⟩ := h
  refine ⟨a, c, rfl, hc, h.imp id ?_⟩
  rintro ⟨b, off, rfl, hr⟩
  have hb := hne _ _ _ rfl
  exact ⟨b, off, rfl, Nat.lt_of_lt_of_le hr.1 hg.size, fun j x hj => by rw [hg.cell_far ⟨b, off + j, none⟩ hr.1 (fun e => hb e.symm)]; exact hr.2 j x hj⟩
def ApartS (base : Nat) (w : World) (x v : Value) : Prop := ∀ a n c, x = .slice (some a) n c → v.ownBlock ≠ some a.block ∧ a.block < w.heap.size ∧ base ≤ a.block
def RowsS (base : Nat) (w : World) (v : Value) (L : List (List ByteArray)) (vs : List Value) : Prop := ∀ (j : Nat) (l : List ByteArray), L[j]? = some l → ∃ x, vs[j]? = some x ∧ Lies w x l ∧ ApartS base w x v
/-- A row of one's own, of slices of strings that nobody writes. -/
def OwnSS (base : Nat) (w : World) (v : Value) (L : List (List ByteArray)) : Prop := ∃ vs, w.ownsRow base 22 1 v L.length vs ∧ RowsS base w v L vs
theorem ownSS_nil (base : Nat) (w : World) : OwnSS base w (.slice none 0 0) [] := ⟨[], World.ownsRow_nil _ _ _ _, fun j l h => by simp at h⟩
theorem own_gr_any {E : TypeId} {base : Nat} {w w' : World} {v : Value} {n : Nat} {xs : List Value} (h : w.ownsRow base E 1 v n xs) (g : Gr w w') : w'.ownsRow base E 1 v n xs := h.kept (⟨g.1, g.2, g.3, g.size, fun k hk _ => g.block k hk⟩ : w.grownBy w' none) (by cases hv : v.ownBlock <;> simp)
theorem RowsS.gr {base : Nat} {w w' : World} {v : Value} {L : List (List ByteArray)} {vs : List Value} (h : RowsS base w v L vs) (g : Gr w w') : RowsS base w' v L vs := fun j l hj => by
  obtain ⟨x, h1, h2, h3⟩ := h j l hj
  exact ⟨x, h1, h2.gr g, fun a n c e => ⟨(h3 a n c e).1, Nat.lt_of_lt_of_le (h3 a n c e).2.1 g.size, (h3 a n c e).2.2⟩⟩
theorem OwnSS.gr {base : Nat} {w w' : World} {v : Value} {L : List (List ByteArray)} (h : OwnSS base w v L) (g : Gr w w') : OwnSS base w' v L := by
  obtain ⟨vs, ho, hr⟩ := h
  exact ⟨vs, own_gr_any ho g, hr.gr g⟩
theorem ownSS_snoc {base : Nat} {w u w1 w2 : World} {v v' x : Value} {vs : List Value} {L : List (List ByteArray)} {l : List ByteArray} (hown : w.ownsRow base 22 1 v L.length vs) (hr : RowsS base w v L vs) (hbs : base ≤ w.heap.size) (g : Gr w u) (hx : u.ownsRow w.heap.size 9 1 x l.length (strs l)) (g1 : Gr u w1)
    (ho : w2.ownsRow base 22 1 v' (L.length + 1) (vs ++ [x])) (hg : w1.grownBy w2 v.ownBlock) (hat : v'.ownBlock = v.ownBlock ∨ v'.ownBlock = some w1.heap.size) : OwnSS base w2 v' (L ++ [l]) := by
  have hvs : vs.length = L.length := by have := hown.1; omega
  have move : ∀ y k, Lies w1 y k → ApartS base w1 y v → Lies w2 y k ∧ ApartS base w2 y v' := by
    intro y k h1 h2
    refine ⟨h1.kept hg fun a n c e => (h2 a n c e).1, fun a n c e => ⟨?_, Nat.lt_of_lt_of_le (h2 a n c e).2.1 hg.size, (h2 a n c e).2.2⟩⟩
    rcases hat with h3 | h3
    · rw [h3]; exact (h2 a n c e).1
    · rw [h3]; have := (h2 a n c e).2.1; intro h4; have := Option.some.inj h4; omega
  refine ⟨vs ++ [x], by rw [List.length_append, List.length_singleton]; exact ho, fun j k hj => ?_⟩
  by_cases hlt : j < L.length
  · rw [List.getElem?_append_left hlt] at hj
    obtain ⟨y, h1, h2, h3⟩ := (hr.gr (g.trans g1)) j k hj
    exact ⟨y, by rw [List.getElem?_append_left (by omega)]; exact h1, move y k h2 h3⟩
  · have hj1 := (List.getElem?_eq_some_iff.1 hj).1
    rw [List.length_append, List.length_singleton] at hj1
    obtain rfl : j = L.length := by omega
    obtain rfl : l = k := by simpa using hj
    refine ⟨x, by rw [← hvs]; simp, move x l ((lies_own hx).gr g1) fun a n c e => ?_⟩
    have h1 := hx.lt a.block (by rw [e]; rfl)
    refine ⟨fun h2 => ?_, Nat.lt_of_lt_of_le h1.2 g1.size, by omega⟩
    have := (hown.lt _ h2).2
    omega
/-- Its elements. -/
theorem ownSS_at {base : Nat} {w : World} {v : Value} {L : List (List ByteArray)} (h : OwnSS base w v L) : ∃ a c, v = .slice a L.length c ∧ L.length ≤ c ∧ (1 ≤ L.length → ∃ b, a = some ⟨b, 0, none⟩ ∧ b < w.heap.size ∧ base ≤ b ∧ ∀ (j : Nat) (l : List ByteArray), L[j]? = some l → ∃ x, w.cell? ⟨b, j, none⟩ = some x ∧ Lies w x l ∧ ∀ a n c, x = .slice (some a) n c → a.block < w.heap.size ∧ base ≤ a.block) := by
  obtain ⟨vs, ho, hr⟩ := h
  have hc := @World.ownsRow.cells w _ _ _ _ _ _ ho
  have hl := ho.lt
  obtain ⟨_, p⟩ := ho
  rcases p with ⟨rfl, z⟩ | ⟨g, cap, cur, rfl, _, _, hn, _⟩
  · exact ⟨none, 0, by rw [z], by omega, fun h => by omega⟩
  · refine ⟨_, cap, rfl, hn, fun _ => ⟨g, rfl, (hl g rfl).2, (hl g rfl).1, fun j l hj => ?_⟩⟩
    obtain ⟨x, h1, h2, h3⟩ := hr j l hj
    have := hc (g := g) rfl j x h1
    rw [add_litS, Nat.zero_add] at this
    exact ⟨x, this, h2, fun a n c e => (h3 a n c e).2⟩
structure GotSS (w : World) (L : List (List ByteArray)) (e : Ending) (w' : World) : Prop where
  got : ∃ v, e = .returned v ∧ OwnSS w.heap.size w' v L
  gr : Gr w w'
theorem runsT_nil (m : Nat) (u : Bool) : ∀ f, runsT m u f [] = []
  | 0 => rfl
  | f + 1 => rfl
theorem runsT_step {m : Nat} {u : Bool} {f : Nat} {l : List ByteArray} (h : l ≠ []) : runsT m u (f + 1) l = sortT (l.take m) u :: runsT m u f (l.drop m) := by
  cases l with
  | nil => exact absurd rfl h
  | cons x r => rfl
def RunAt (l : List ByteArray) (m : Nat) (un : Bool) (w : World) (v i : Value) (wr : World) : Prop :=
  ∃ (p q : Nat) (R : List (List ByteArray)), p ≤ l.length ∧ i = .int .i64 (p : Int) ∧ l.length ≤ p + q ∧ R.length ≤ p ∧ runsT m un l.length l = R ++ runsT m un q (l.drop p) ∧ OwnSS w.heap.size wr v R ∧ Below w.heap.size w wr
set_option maxHeartbeats 4000000 in
theorem rruns_c {w : World} {v : Value} {l : List ByteArray} (h : Lies w v l) (hl : l.length ≤ 1000) (m : Nat) (hm : 1 ≤ m ∧ m ≤ 1000) (un : Bool) :
    Calls Tryz.prog 11 #[v, .int .i64 (m : Int), .bool un] w (GotSS w (runsT m un l.length l)) := by
  obtain ⟨i0, hi, hz0, hz1, hz2⟩ := info_parts infoSS
  have HL := Lib.hid (fun u (g : Gr w u) => h.gr g)
  obtain ⟨a, c, rfl, hc, h⟩ := h
  obtain ⟨n, hn⟩ : ∃ n, l.length = n := ⟨_, rfl⟩
  have HN := Lib.hid hn
  rw [hn] at hl hc HL
  have HF := Lib.hid (show ∀ R, runsT m un l.length l = R → runsT m un l.length l = R from fun R h => h)
  obtain ⟨T, hT⟩ : ∃ T, runsT m un l.length l = T := ⟨_, rfl⟩
  have HT := Lib.hid hT
  rw [hn, ← hn, hT]
  rw [hn]
  clear h hn hT HF
  go_enter Tryz.func11, Tryz.ntmps11
  go_wp2_with fail
  go_loopw [7, 8] (fun v i wr => RunAt l m un w v i wr) (fun _ i _ => n - (intOf i).toNat)
  case atStart => exact ⟨0, n, [], Nat.zero_le _, rfl, by have := HN.out; omega, Nat.le_refl _, by have := HN.out; rw [List.drop_zero, List.nil_append, this], ownSS_nil _ _, Below.refl _ _⟩
  case round =>
    obtain ⟨p, q, R, hp, rfl, hq, hRp, hE, hown, hbel⟩ := hrel
    have hjn := HN.out
    rw [hjn] at hp hq
    have hws := hbel.size
    by_cases hlt : p < n
    · obtain ⟨q', rfl⟩ : ∃ q', q = q' + 1 := ⟨q - 1, by omega⟩
      have hne : l.drop p ≠ [] := by intro e; have := congrArg List.length e; rw [List.length_drop] at this; simp at this; omega
      rw [runsT_step hne] at hE
      obtain ⟨vs, ho, hrows⟩ := hown
      have sh : ∃ a2 c2, u7 = .slice a2 R.length c2 := by
        rcases ho.2 with ⟨e, z⟩ | ⟨g, cap, cur, e, _⟩
        · exact ⟨none, 0, by rw [e, z]⟩
        · exact ⟨_, cap, e⟩
      obtain ⟨a2, c2, rfl⟩ := sh
      obtain ⟨rl, hrl⟩ : ∃ rl, R.length = rl := ⟨_, rfl⟩
      have HRL := Lib.hid hrl
      rw [hrl] at ho hRp hrows ⊢
      have OW := Lib.hid ho
      have RS := Lib.hid hrows
      have HB := Lib.hid hbel
      have HE := Lib.hid hE
      clear ho hrows hE hne hrl
      by_cases hmk : m < n - p
      · have hmI : (m : Int) < (n : Int) - (p : Int) := by omega
        have HTK : (l.drop p).take m = (l.drop p).take m := rfl
        obtain ⟨vs2, hvs⟩ : ∃ vs2, Value.slice (if c = p then a else a.map (fun x => x.add p)) (p + m - p) (c - p) = vs2 := ⟨_, rfl⟩
        have SL1 := mid_anyS a n c p (p + m) (by omega) (by omega) hc ((p : Int) + (m : Int)) (by omega) 
        have SL2 := mid_anyS a n c p (p + m) (by omega) (by omega) hc (((p + m : Nat)) : Int) rfl
        rw [hvs] at SL1 SL2
        have hLS := (show Lies wr vs2 ((l.drop p).take m) from by
          have hh := lies_midS (HL.out wr HB.out) p (p + m) (by omega) (by omega)
          rw [hvs, List.drop_take, show p + m - p = m by omega, ← HTK] at hh
          exact hh)
        have hsz : ((l.drop p).take m).length ≤ 1000 := by rw [List.length_take, List.length_drop]; omega
        have SO := Lib.hid (fun u (g : Gr wr u) => rsorted_c (hLS.gr g) (by omega) un)
        generalize sortT ((l.drop p).take m) un = S at HE SO
        clear hLS hsz hvs HTK
        go_wp2_with fail
        refine (SO.out _ (Gr.refl _)).mono ?_; rintro e u ⟨⟨v2, rfl, ho2⟩, g2⟩
        have sh2 : ∃ a3 c3, v2 = .slice a3 S.length c3 := by
          rcases ho2.2 with ⟨e, z⟩ | ⟨g, cap, cur, e, _⟩
          · exact ⟨none, 0, by rw [e, z]⟩
          · exact ⟨_, cap, e⟩
        obtain ⟨a3, c3, rfl⟩ := sh2
        obtain ⟨sl, hsl⟩ : ∃ sl, S.length = sl := ⟨_, rfl⟩
        have HSL := Lib.hid hsl
        rw [hsl] at ho2 ⊢
        have O2 := Lib.hid ho2
        have G2 := Lib.hid g2
        have hus := g2.size
        clear ho2 g2 hsl
        go_wp2_with (first
          | (at_builtin; refine wpList_append_own_at _ rfl _ _ 35 rfl w.heap.size 22 i0 (.slice none 0 0) 1 24 Tryz.underlying35 hi hz0 hz1 hz2 rfl (by decide) _ rl vs rfl ((own_gr_any OW.out G2.out).alloc _) ⟨u.heap.size, 0, none⟩ 1 1 [.slice a3 sl c3] rfl rfl (cell_one_new _ _ _) (by simp [Value.oneCell']) (by unfold maxLen; omega) (by omega) (by simp; omega) ?_)
          | go_in)
        intro v' w1 hown1 hgrow1 _ hat1
        have OS := Lib.hid (ownSS_snoc (base := w.heap.size) (v := .slice a2 rl c2) (by rw [HRL.out]; exact OW.out) RS.out HB.out.size G2.out (l := S) (by rw [HSL.out]; exact O2.out) (gr16 u (.cells #[.slice a3 sl c3] 22)) (by rw [HRL.out]; exact hown1) hgrow1 (by simpa using hat1))
        have hb1 : Below w.heap.size w w1 := ((Below.trans HB.out (Below.mono G2.out hws)).alloc (by omega) _).grown hgrow1 (by simp; omega) (fun q hq => (OW.out.lt q hq).1)
        clear hown1 hgrow1 hat1
        go_wp2_with fail
        refine ⟨⟨p + m, q', R ++ [S], by omega, rfl, by omega, by rw [List.length_append, HRL.out]; simp; omega, by (rw [HE.out, List.drop_drop]; simp), OS.out, hb1⟩, ?_⟩
        simp [intOf]; omega
      · have hmI : ¬ (m : Int) < (n : Int) - (p : Int) := by omega
        have HTK : (l.drop p).take m = (l.drop p).take (n - p) := by
          rw [List.take_of_length_le (by rw [List.length_drop]; omega), List.take_of_length_le (by rw [List.length_drop]; omega)]
        have HDK : (l.drop p).drop m = (l.drop p).drop (n - p) := by
          rw [List.drop_eq_nil_of_le (by rw [List.length_drop]; omega), List.drop_eq_nil_of_le (by rw [List.length_drop]; omega)]
        have SL3 := mid_anyS a n c p (p + (n - p)) (by omega) (by omega) hc (n : Int) (by omega)
        obtain ⟨vs2, hvs⟩ : ∃ vs2, Value.slice (if c = p then a else a.map (fun x => x.add p)) (p + (n - p) - p) (c - p) = vs2 := ⟨_, rfl⟩
        have SL1 := mid_anyS a n c p (p + (n - p)) (by omega) (by omega) hc ((p : Int) + ((n : Int) - (p : Int))) (by omega) 
        have SL2 := mid_anyS a n c p (p + (n - p)) (by omega) (by omega) hc (((p + (n - p) : Nat)) : Int) rfl
        rw [hvs] at SL1 SL2 SL3
        have hLS := (show Lies wr vs2 ((l.drop p).take m) from by
          have hh := lies_midS (HL.out wr HB.out) p (p + (n - p)) (by omega) (by omega)
          rw [hvs, List.drop_take, show p + (n - p) - p = (n - p) by omega, ← HTK] at hh
          exact hh)
        have hsz : ((l.drop p).take m).length ≤ 1000 := by rw [List.length_take, List.length_drop]; omega
        have SO := Lib.hid (fun u (g : Gr wr u) => rsorted_c (hLS.gr g) (by omega) un)
        have HDR := Lib.hid HDK
        generalize sortT ((l.drop p).take m) un = S at HE SO
        clear hLS hsz hvs HTK HDK
        go_wp2_with fail
        refine (SO.out _ (Gr.refl _)).mono ?_; rintro e u ⟨⟨v2, rfl, ho2⟩, g2⟩
        have sh2 : ∃ a3 c3, v2 = .slice a3 S.length c3 := by
          rcases ho2.2 with ⟨e, z⟩ | ⟨g, cap, cur, e, _⟩
          · exact ⟨none, 0, by rw [e, z]⟩
          · exact ⟨_, cap, e⟩
        obtain ⟨a3, c3, rfl⟩ := sh2
        obtain ⟨sl, hsl⟩ : ∃ sl, S.length = sl := ⟨_, rfl⟩
        have HSL := Lib.hid hsl
        rw [hsl] at ho2 ⊢
        have O2 := Lib.hid ho2
        have G2 := Lib.hid g2
        have hus := g2.size
        clear ho2 g2 hsl
        go_wp2_with (first
          | (at_builtin; refine wpList_append_own_at _ rfl _ _ 35 rfl w.heap.size 22 i0 (.slice none 0 0) 1 24 Tryz.underlying35 hi hz0 hz1 hz2 rfl (by decide) _ rl vs rfl ((own_gr_any OW.out G2.out).alloc _) ⟨u.heap.size, 0, none⟩ 1 1 [.slice a3 sl c3] rfl rfl (cell_one_new _ _ _) (by simp [Value.oneCell']) (by unfold maxLen; omega) (by omega) (by simp; omega) ?_)
          | go_in)
        intro v' w1 hown1 hgrow1 _ hat1
        have OS := Lib.hid (ownSS_snoc (base := w.heap.size) (v := .slice a2 rl c2) (by rw [HRL.out]; exact OW.out) RS.out HB.out.size G2.out (l := S) (by rw [HSL.out]; exact O2.out) (gr16 u (.cells #[.slice a3 sl c3] 22)) (by rw [HRL.out]; exact hown1) hgrow1 (by simpa using hat1))
        have hb1 : Below w.heap.size w w1 := ((Below.trans HB.out (Below.mono G2.out hws)).alloc (by omega) _).grown hgrow1 (by simp; omega) (fun q hq => (OW.out.lt q hq).1)
        clear hown1 hgrow1 hat1
        go_wp2_with fail
        refine ⟨⟨p + (n - p), q', R ++ [S], by omega, (by congr 1; omega), by omega, by rw [List.length_append, HRL.out]; simp; omega, by (rw [HE.out, HDR.out, List.drop_drop]; simp), OS.out, hb1⟩, ?_⟩
        simp [intOf]; omega
    · obtain rfl : p = n := by omega
      have hd : l.drop p = [] := List.drop_eq_nil_of_le (by omega)
      rw [hd, runsT_nil, List.append_nil] at hE
      have HO := Lib.hid hown
      have HE := Lib.hid hE
      clear hown hE hd
      go_wp2_with fail
      go_ret
      exact ⟨⟨_, rfl, by rw [← HT.out, HE.out]; exact HO.out⟩, hbel⟩
end Go.Proofs.YtdlomcgkpiejgaaGreatDoor
/- Plain facts: the runs by their places; what holds while they are formed. -/
namespace Go.Proofs.YtdlomcgkpiejgaaGreatDoor
open Go.RowKit FsPlain CrcPlain OctPlain FramePlain RecPlain RdPlain RnPlain WrPlain
set_option linter.unusedVariables false
set_option linter.unusedSimpArgs false
set_option maxRecDepth 20000
/-- The i-th run of some records. -/
def runAt (m : Nat) (u : Bool) (l : List ByteArray) (i : Nat) : List ByteArray := sortT ((l.drop (i * m)).take m) u
theorem runs_at {m : Nat} (hm : 1 ≤ m) (u : Bool) : ∀ (f : Nat) (l : List ByteArray) (i : Nat), l.length ≤ f → (runsT m u f l)[i]? = if i * m < l.length then some (runAt m u l i) else none
  | 0, l, i, h => by
    have : l = [] := List.eq_nil_of_length_eq_zero (by omega)
    subst this
    simp [runsT]
  | f + 1, l, i, h => by
    by_cases hl : l = []
    · subst hl; rw [runsT_nil]; simp
    · have hpos : 1 ≤ l.length := by
        cases l with
        | nil => exact absurd rfl hl
        | cons x r => simp
      rw [runsT_step hl]
      cases i with
      | zero =>
        rw [List.getElem?_cons_zero, Nat.zero_mul, if_pos (by omega)]
        unfold runAt
        rw [Nat.zero_mul, List.drop_zero]
      | succ i =>
        rw [List.getElem?_cons_succ, runs_at hm u f (l.drop m) i (by rw [List.length_drop]; omega), List.length_drop]
        have e : (i + 1) * m = m + i * m := by rw [Nat.succ_mul]; omega
        by_cases hc : i * m < l.length - m
        · rw [if_pos hc, if_pos (by rw [e]; omega)]
          unfold runAt
          rw [List.drop_drop, e]
        · rw [if_neg hc, if_neg (by rw [e]; omega)]
/-- How many there are: k, if k - 1 are full and the last one isn't empty. -/
theorem runs_len {m : Nat} (hm : 1 ≤ m) (u : Bool) {l : List ByteArray} {k : Nat} (h1 : k = 0 → l = []) (h2 : 1 ≤ k → (k - 1) * m < l.length) (h3 : l.length ≤ k * m) : (runsT m u l.length l).length = k := by
  have hk : ∀ i, i < (runsT m u l.length l).length ↔ i * m < l.length := by
    intro i
    have := runs_at hm u l.length l i (Nat.le_refl _)
    constructor
    · intro hi
      rw [List.getElem?_eq_getElem hi] at this
      by_cases hc : i * m < l.length
      · exact hc
      · rw [if_neg hc] at this; cases this
    · intro hc
      rw [if_pos hc] at this
      exact (List.getElem?_eq_some_iff.1 this).1
  rcases Nat.lt_trichotomy (runsT m u l.length l).length k with h | h | h
  · have := (hk (k - 1)).2 (h2 (by omega))
    omega
  · exact h
  · have := (hk k).1 h
    omega
/-- What was read ahead tells of the first runs what all tells. -/
theorem runAt_more {m : Nat} {u : Bool} {l r : List ByteArray} {i : Nat} (h : (i + 1) * m ≤ l.length) : runAt m u (l ++ r) i = runAt m u l i := by
  unfold runAt
  rw [Nat.succ_mul] at h
  rw [List.drop_append_of_le_length (by omega), List.take_append_of_le_length (by rw [List.length_drop]; omega)]
/-- The last run of what was read, if the ones ahead are full. -/
theorem runAt_last {m : Nat} {u : Bool} {l r : List ByteArray} {k : Nat} (h : l.length = k * m) (hr : r.length ≤ m) : runAt m u (l ++ r) k = sortT r u := by
  unfold runAt
  rw [← h, List.drop_left, List.take_of_length_le hr]
/-- The disk while runs are formed: k of them are there, of these records. -/
structure Formed (s0 s : St) (out : ByteArray) (size : Int) (m : Nat) (u : Bool) (l : List ByteArray) (k : Nat) : Prop where
  file : ∀ i, i < k → HasD s (nameN out (i : Int)).data.toList (bs (layL size (runAt m u l i)))
  oth : ∀ n, (∀ i : Nat, i < k → n ≠ (nameN out (i : Int)).data.toList) → s.get n = s0.get n
  len : s.fs.length = s0.fs.length + k
  room : s.room = s0.room
theorem formed_zero (s0 : St) (out : ByteArray) (size : Int) (m : Nat) (u : Bool) : Formed s0 s0 out size m u [] 0 := ⟨fun i hi => by omega, fun _ _ => rfl, rfl, rfl⟩
theorem Formed.quiet {s0 s s' : St} {out : ByteArray} {size : Int} {m : Nat} {u : Bool} {l : List ByteArray} {k : Nat} (h : Formed s0 s out size m u l k) (q : Quiet s s') : Formed s0 s' out size m u l k :=
  ⟨fun i hi => (h.file i hi).quiet q, fun n hn => (q.get n).trans (h.oth n hn), by rw [q.fs]; exact h.len, q.room.trans h.room⟩
/-- More was read; the runs that are there are full. -/
theorem Formed.read {s0 s : St} {out : ByteArray} {size : Int} {m : Nat} {u : Bool} {l : List ByteArray} {k : Nat} (h : Formed s0 s out size m u l k) (hk : k * m ≤ l.length) (r : List ByteArray) : Formed s0 s out size m u (l ++ r) k :=
  ⟨fun i hi => by
    rw [runAt_more (Nat.le_trans (Nat.mul_le_mul_right m (by omega : i + 1 ≤ k)) hk)]
    exact h.file i hi, h.oth, h.len, h.room⟩
/-- One run more. -/
theorem Formed.step {s0 s s' : St} {out : ByteArray} {size : Int} {m : Nat} {u : Bool} {l : List ByteArray} {k : Nat} (h : Formed s0 s out size m u l k) (hn : ∀ i j : Nat, i ≤ k → j ≤ k → i ≠ j → (nameN out (i : Int)).data.toList ≠ (nameN out (j : Int)).data.toList) (o : Oth (nameN out (k : Int)).data.toList 1 s s') (hf : HasD s' (nameN out (k : Int)).data.toList (bs (layL size (runAt m u l k)))) : Formed s0 s' out size m u l (k + 1) := by
  refine ⟨fun i hi => ?_, fun n hne => ?_, by rw [o.len, h.len]; omega, o.room.trans h.room⟩
  · by_cases e : i = k
    · subst e; exact hf
    · obtain ⟨f, h1, h2⟩ := h.file i (by omega)
      exact ⟨f, by rw [o.get _ (hn i k (by omega) (Nat.le_refl _) e)]; exact h1, h2⟩
  · rw [o.get n (hne k (by omega))]
    exact h.oth n fun i hi => hne i (by omega)
theorem dig_inj : ∀ (f a b : Nat), a < f → digB a = digB b → a = b
  | f + 1, a, b, h, e => by
    have d : ∀ x y : Nat, x < 10 → y < 10 → UInt8.ofNat (48 + x) = UInt8.ofNat (48 + y) → x = y := by
      intro x y hx hy h
      have := congrArg UInt8.toNat h
      simp at this
      omega
    have l1 : ∀ n : Nat, 1 ≤ (digB n).length := by
      intro n
      by_cases h : n < 10
      · rw [digB_small h]; simp
      · rw [digB_big h]; simp
    by_cases ha : a < 10
    · by_cases hb : b < 10
      · rw [digB_small ha, digB_small hb] at e
        exact d a b ha hb (by simpa using e)
      · rw [digB_small ha, digB_big hb] at e
        have h1 := congrArg List.length e
        have h2 := l1 (b / 10)
        rw [List.length_append, List.length_singleton, List.length_singleton] at h1
        omega
    · by_cases hb : b < 10
      · rw [digB_big ha, digB_small hb] at e
        have h1 := congrArg List.length e
        have h2 := l1 (a / 10)
        rw [List.length_append, List.length_singleton, List.length_singleton] at h1
        omega
      · rw [digB_big ha, digB_big hb] at e
        obtain ⟨e1, e2⟩ := List.append_inj' e rfl
        have h1 := dig_inj f (a / 10) (b / 10) (by omega) e1
        have h2 := d (a % 10) (b % 10) (by omega) (by omega) (by simpa using e2)
        omega
theorem name_inj {out : ByteArray} {i j : Nat} (h : (nameN out (i : Int)).data.toList = (nameN out (j : Int)).data.toList) : i = j := by
  unfold nameN at h
  rw [if_neg (by omega), if_neg (by omega), Int.toNat_natCast, Int.toNat_natCast] at h
  rw [app_data, app_data, bs_data, bs_data] at h
  have := List.append_cancel_left h
  exact dig_inj (i + 1) i j (by omega) this
/-- All runs are there. -/
theorem formed_all {s0 s : St} {out : ByteArray} {size m : Int} {u : Bool} {L : List ByteArray} {k : Nat} (hm : 1 ≤ m) (h : Formed s0 s out size m.toNat u L k) (h1 : k = 0 → L = []) (h2 : 1 ≤ k → (k - 1) * m.toNat < L.length) (h3 : L.length ≤ k * m.toNat) : RunsOf s0 s out size m u L (k : Int) := by
  have hl := runs_len (m := m.toNat) (by omega) u h1 h2 h3
  refine ⟨by rw [hl], fun i l hi => ?_, by rw [hl]; exact h.len⟩
  have hlt := (List.getElem?_eq_some_iff.1 hi).1
  rw [hl] at hlt
  rw [runs_at (by omega) u _ _ _ (Nat.le_refl _)] at hi
  split at hi
  · cases hi; exact h.file i hlt
  · cases hi
end Go.Proofs.YtdlomcgkpiejgaaGreatDoor
/- A row of one's own as a part of a world; what an append makes of it. -/
namespace Go.Proofs.YtdlomcgkpiejgaaGreatDoor
open Go.RowKit
set_option linter.unusedVariables false
set_option linter.unusedSimpArgs false
set_option maxRecDepth 20000
/-- A row of elements of a type. -/
def RowE (E : TypeId) (z : Nat) (v : Value) (n : Nat) (xs : List Value) : Asn := fun w B => w.ownsRow 0 E z v n xs ∧ (∀ b, v.ownBlock = some b → B b) ∧ ∀ b, B b → b < w.heap.size
theorem fr_rowE (E : TypeId) (z : Nat) (v : Value) (n : Nat) (xs : List Value) : Fr (RowE E z v n xs) where
  fr := fun {w w' B C} ⟨h, hB, hl⟩ o d => by
    refine ⟨⟨h.1, ?_⟩, hB, fun b hb => Nat.lt_of_lt_of_le (hl b hb) o.size⟩
    rcases h.2 with h3 | ⟨g, cap, cur, rfl, h4, h5, h6⟩
    · exact .inl h3
    · exact .inr ⟨g, cap, cur, rfl, h4, by rw [o.block _ (lt_of_block h5) (d g (hB g rfl))]; exact h5, h6⟩
  lo := fun ⟨_, _, hl⟩ => hl
theorem rowE_nil (E : TypeId) (z : Nat) (w : World) : RowE E z (.slice none 0 0) 0 [] w (fun _ => False) := ⟨World.ownsRow_nil _ _ _ _, (fun b hb => by cases hb), fun b hb => hb.elim⟩
theorem rowE_shape {E : TypeId} {z : Nat} {v : Value} {n : Nat} {xs : List Value} {w : World} {B : Nat → Prop} (h : RowE E z v n xs w B) : ∃ a c, v = .slice a n c ∧ n ≤ c ∧ c ≤ maxLen ∧ (a = none → n = 0) := by
  rcases h.1.2 with ⟨rfl, rfl⟩ | ⟨g, cap, cur, rfl, _, _, h1, h2, _⟩
  · exact ⟨none, 0, rfl, Nat.le_refl _, Nat.zero_le _, fun _ => rfl⟩
  · exact ⟨_, cap, rfl, h1, h2, fun h => by cases h⟩
/-- Behind an append that the walk has met. -/
theorem rowE_next {E : TypeId} {z : Nat} {v v' : Value} {n n' : Nat} {xs xs' : List Value} {w w1 w' : World} {B : Nat → Prop} (h : RowE E z v n xs w B) (g : Gr w w1) (hown : w'.ownsRow 0 E z v' n' xs') (hg : w1.grownBy w' v.ownBlock) (hat : v'.ownBlock = v.ownBlock ∨ v'.ownBlock = some w1.heap.size) :
    ∃ B', RowE E z v' n' xs' w' B' ∧ Nx B w B' w' := by
  obtain ⟨_, hB, hl⟩ := h
  refine ⟨fun b => v'.ownBlock = some b, ⟨hown, fun b hb => hb, fun b hb => (hown.lt b hb).2⟩, ?_, fun b hb => ?_⟩
  · exact (Only.ofGr g).trans (Only.grown hg hB)
  · rcases hat with h1 | h1
    · rw [h1] at hb; exact .inl (hB b hb)
    · rw [h1] at hb; simp only [Option.some.injEq] at hb; rw [← hb]; exact .inr g.size
/-- A row of strings. -/
def RowA (v : Value) (l : List ByteArray) : Asn := RowE 9 1 v l.length (strs l)
theorem fr_row (v : Value) (l : List ByteArray) : Fr (RowA v l) := fr_rowE _ _ _ _ _
theorem row_nil (w : World) : RowA (.slice none 0 0) [] w (fun _ => False) := rowE_nil _ _ w
theorem row_lies {v : Value} {l : List ByteArray} {w : World} {B : Nat → Prop} (h : RowA v l w B) : Lies w v l := lies_own h.1
theorem row_app {v v' : Value} {l : List ByteArray} {r : ByteArray} {w w1 w' : World} {B : Nat → Prop} (h : RowA v l w B) (g : Gr w w1) (hown : w'.ownsRow 0 9 1 v' (l.length + 1) (strs l ++ [.string r])) (hg : w1.grownBy w' v.ownBlock) (hat : v'.ownBlock = v.ownBlock ∨ v'.ownBlock = some w1.heap.size) :
    ∃ B', RowA v' (l ++ [r]) w' B' ∧ Nx B w B' w' := by
  have := rowE_next h g hown hg hat
  unfold RowA
  rwa [List.length_append, List.length_singleton, show strs (l ++ [r]) = strs l ++ [.string r] by simp [strs]]
theorem infoS : (Tryz.prog.info? 9).map (fun i => (i.zero, i.size, i.bytes)) = some (some (.string ⟨#[]⟩), 1, 16) := by kernel_rfl
/-- A store into a block known whole. -/
theorem blk_next {p i : Nat} {c : Array Value} {T : TypeId} {w : World} {B : Nat → Prop} (h : Blk p c T w B) (u : Value) : ∃ B', Blk p (c.setIfInBounds i u) T (w.setCell ⟨p, i, none⟩ u) B' ∧ Nx B w B' (w.setCell ⟨p, i, none⟩ u) :=
  ⟨B, ⟨cells_set h.1 i u, h.2⟩, Nx.of (Only.cell1 _ _ _ _) fun b hb => (h.2 b).2 hb⟩
end Go.Proofs.YtdlomcgkpiejgaaGreatDoor
