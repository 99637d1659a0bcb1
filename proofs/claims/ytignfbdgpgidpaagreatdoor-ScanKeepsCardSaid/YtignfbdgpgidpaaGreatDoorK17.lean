/- In one text: MnCur. -/
import Derived.Test.YtignfbdgpgidpaaGreatDoorK15
import Derived.Test.YtignfbdgpgidpaaGreatDoorK11
/- Plain facts of the program's reader of a manifest: a cursor over its bytes. -/
namespace Go.Proofs.YtignfbdgpgidpaaGreatDoor
open Go.RowKit FsPlain CrcPlain OctPlain
set_option linter.unusedVariables false
set_option linter.unusedSimpArgs false
namespace MnPlain
structure Cu where
  p : Nat
  x : Bool
def getC (b : ByteArray) (k : Nat) (c : Cu) : Int := getN b (c.p : Int) (k : Int)
def nextC (b : ByteArray) (k : Nat) (c : Cu) : Cu := ⟨c.p + k, c.x || !getB b (c.p : Int) (k : Int)⟩
def textB (b : ByteArray) (n : Nat) (c : Cu) : Bool := decide (c.p + n ≤ b.size)
def textC (b : ByteArray) (n : Nat) (c : Cu) : Cu := ⟨c.p + n, c.x || !textB b n c⟩
def textS (b : ByteArray) (n : Nat) (c : Cu) : ByteArray := if textB b n c = true then b.extract c.p (c.p + n) else ⟨#[]⟩
theorem beL_numM : ∀ l : List UInt8, beL l.length (num l) = l := by
  have h : ∀ r : List UInt8, beL r.reverse.length (num r.reverse) = r.reverse := by
    intro r
    induction r with
    | nil => rfl
    | cons a l ih =>
      rw [List.reverse_cons, num_snoc, List.length_append, List.length_cons, List.length_nil]
      show beL (l.reverse.length + 1) _ = _
      rw [beL, show (num l.reverse * 256 + a.toNat) / 256 = num l.reverse by have := a.toNat_lt; omega, ih, show (num l.reverse * 256 + a.toNat) % 256 = a.toNat by have := a.toNat_lt; omega]
      simp
  intro l
  have := h l.reverse
  rwa [List.reverse_reverse] at this
theorem take_cut (b : ByteArray) (p k : Nat) : b.data.toList.take (p + k) = b.data.toList.take p ++ cutL b p k := List.take_add
theorem next_fwd {b : ByteArray} {k : Nat} {c : Cu} (h : (nextC b k c).x = false) : c.x = false ∧ c.p + k ≤ b.size ∧ b.data.toList.take (c.p + k) = b.data.toList.take c.p ++ beL k (getC b k c).toNat := by
  unfold nextC at h
  simp only [Bool.or_eq_false_iff, Bool.not_eq_false'] at h
  obtain ⟨h1, h2⟩ := h
  have h3 := h2
  unfold getB at h3
  rw [decide_eq_true_iff] at h3
  refine ⟨h1, by omega, ?_⟩
  have e := cutL_length b c.p k (by omega)
  have e2 := beL_numM (cutL b c.p k)
  rw [e] at e2
  rw [take_cut]
  unfold getC
  rw [getN_yes h2, Int.toNat_natCast, e2]
theorem text_fwd {b : ByteArray} {n : Nat} {c : Cu} (h : (textC b n c).x = false) : c.x = false ∧ c.p + n ≤ b.size ∧ b.data.toList.take (c.p + n) = b.data.toList.take c.p ++ (textS b n c).data.toList ∧ (textS b n c).size = n := by
  unfold textC at h
  simp only [Bool.or_eq_false_iff, Bool.not_eq_false'] at h
  obtain ⟨h1, h2⟩ := h
  have h3 := h2
  unfold textB at h3
  rw [decide_eq_true_iff] at h3
  refine ⟨h1, h3, ?_, ?_⟩
  · rw [take_cut]
    unfold textS
    rw [if_pos h2]
    congr 1
    unfold cutL
    simp [ByteArray.data_extract, List.take_drop]
  · unfold textS
    rw [if_pos h2, ByteArray.size_extract]
    omega
def fileN (b : ByteArray) (c : Cu) : Nat := (getC b 1 c).toNat
def file2 (b : ByteArray) (c : Cu) : Cu := textC b (fileN b c) (nextC b 1 c)
def fileE (b : ByteArray) (c : Cu) : Cu := nextC b 4 (nextC b 8 (nextC b 1 (file2 b c)))
def fileF (b : ByteArray) (c : Cu) : Fl := ⟨textS b (fileN b c) (nextC b 1 c), getC b 1 (file2 b c), getC b 8 (nextC b 1 (file2 b c)), getC b 4 (nextC b 8 (nextC b 1 (file2 b c)))⟩
theorem getC_nat {b : ByteArray} {k : Nat} {c : Cu} : 0 ≤ getC b k c := get_nat
theorem getC_lt {b : ByteArray} {k : Nat} {c : Cu} (h : 0 < k) : getC b k c < ((256 ^ k : Nat) : Int) := get_lt h
theorem fileN_lt (b : ByteArray) (c : Cu) : fileN b c < 256 := by
  unfold fileN
  have := getC_lt (b := b) (c := c) (k := 1) (by omega)
  omega
theorem fileE_p (b : ByteArray) (c : Cu) : (fileE b c).p = c.p + 1 + fileN b c + 13 := by
  unfold fileE file2 nextC textC
  dsimp only
theorem file_fwd {b : ByteArray} {c : Cu} (h : (fileE b c).x = false) : c.x = false ∧ (fileE b c).p ≤ b.size ∧ b.data.toList.take (fileE b c).p = b.data.toList.take c.p ++ flL (fileF b c) ∧ flI (fileF b c) := by
  have hp := fileE_p b c
  obtain ⟨h1, p1, t1⟩ := next_fwd h
  obtain ⟨h2, p2, t2⟩ := next_fwd h1
  obtain ⟨h3, p3, t3⟩ := next_fwd h2
  obtain ⟨h4, p4, t4, s4⟩ := text_fwd h3
  obtain ⟨h5, p5, t5⟩ := next_fwd h4
  have q4 : (nextC b 8 (nextC b 1 (file2 b c))).p + 4 = (fileE b c).p := rfl
  have q3 : (nextC b 8 (nextC b 1 (file2 b c))).p = (nextC b 1 (file2 b c)).p + 8 := rfl
  have q2 : (nextC b 1 (file2 b c)).p = (file2 b c).p + 1 := rfl
  have q1 : (file2 b c).p = (nextC b 1 c).p + fileN b c := rfl
  have q0 : (nextC b 1 c).p = c.p + 1 := rfl
  rw [q4] at p1 t1
  refine ⟨h5, p1, ?_, ?_⟩
  · rw [t1, q3, t2, q2, t3, q1, t4, q0, t5]
    unfold flL fileF
    dsimp only
    rw [s4]
    unfold fileN
    simp only [List.append_assoc]
  · have a1 := getC_lt (b := b) (k := 1) (c := file2 b c) (by omega)
    have a2 := getC_lt (b := b) (k := 8) (c := nextC b 1 (file2 b c)) (by omega)
    have a3 := getC_lt (b := b) (k := 4) (c := nextC b 8 (nextC b 1 (file2 b c))) (by omega)
    have b1 := getC_nat (b := b) (k := 1) (c := file2 b c)
    have b2 := getC_nat (b := b) (k := 8) (c := nextC b 1 (file2 b c))
    have b3 := getC_nat (b := b) (k := 4) (c := nextC b 8 (nextC b 1 (file2 b c)))
    have a0 := fileN_lt b c
    unfold flI fileF
    dsimp only
    rw [s4]
    refine ⟨a0, ⟨b1, ?_⟩, ⟨b2, ?_⟩, b3, ?_⟩ <;> simp at a1 a2 a3 <;> omega
theorem next_is {b : ByteArray} {k n : Nat} {c : Cu} (h : getB b (c.p : Int) (k : Int) = true ∧ getN b (c.p : Int) (k : Int) = (n : Int)) : nextC b k c = ⟨c.p + k, c.x⟩ ∧ getC b k c = (n : Int) := by
  refine ⟨?_, h.2⟩
  unfold nextC
  rw [h.1, Bool.not_true, Bool.or_false]
theorem file_bwd {b : ByteArray} {p q : List UInt8} {f : Fl} {c : Cu} (hf : flI f) (hc : f.count < 9223372036854775808) (h : b.data.toList = p ++ (flL f ++ q)) (hp : c.p = p.length) : fileF b c = f ∧ fileE b c = ⟨c.p + 14 + f.name.size, c.x⟩ := by
  obtain ⟨f1, ⟨f2, f3⟩, ⟨f4, f5⟩, f6, f7⟩ := hf
  have hn : f.name.data.toList.length = f.name.size := rfl
  unfold flL at h
  have e1 : b.data.toList = p ++ (beL 1 f.name.size ++ (f.name.data.toList ++ (beL 1 f.size.toNat ++ (beL 8 f.count.toNat ++ (beL 4 f.sum.toNat ++ q))))) := by rw [h]; simp only [List.append_assoc]
  have e2 : b.data.toList = (p ++ beL 1 f.name.size) ++ (f.name.data.toList ++ (beL 1 f.size.toNat ++ (beL 8 f.count.toNat ++ (beL 4 f.sum.toNat ++ q)))) := by rw [e1]; simp only [List.append_assoc]
  have e3 : b.data.toList = ((p ++ beL 1 f.name.size) ++ f.name.data.toList) ++ (beL 1 f.size.toNat ++ (beL 8 f.count.toNat ++ (beL 4 f.sum.toNat ++ q))) := by rw [e1]; simp only [List.append_assoc]
  have e4 : b.data.toList = (((p ++ beL 1 f.name.size) ++ f.name.data.toList) ++ beL 1 f.size.toNat) ++ (beL 8 f.count.toNat ++ (beL 4 f.sum.toNat ++ q)) := by rw [e1]; simp only [List.append_assoc]
  have e5 : b.data.toList = ((((p ++ beL 1 f.name.size) ++ f.name.data.toList) ++ beL 1 f.size.toNat) ++ beL 8 f.count.toNat) ++ (beL 4 f.sum.toNat ++ q) := by rw [e1]; simp only [List.append_assoc]
  have l2 : (p ++ beL 1 f.name.size).length = c.p + 1 := by rw [List.length_append, beL_length, hp]
  have l3 : ((p ++ beL 1 f.name.size) ++ f.name.data.toList).length = c.p + 1 + f.name.size := by rw [List.length_append, l2, hn]
  have l4 : (((p ++ beL 1 f.name.size) ++ f.name.data.toList) ++ beL 1 f.size.toNat).length = c.p + 1 + f.name.size + 1 := by rw [List.length_append, l3, beL_length]
  have l5 : ((((p ++ beL 1 f.name.size) ++ f.name.data.toList) ++ beL 1 f.size.toNat) ++ beL 8 f.count.toNat).length = c.p + 1 + f.name.size + 1 + 8 := by rw [List.length_append, l4, beL_length]
  have hbs : b.size = c.p + 1 + f.name.size + 1 + 8 + 4 + q.length := by
    have e : b.data.toList.length = b.size := rfl
    rw [← e, e5, List.length_append, l5, List.length_append, beL_length]; omega
  obtain ⟨n1, g1⟩ := next_is (c := c) (k := 1) (get_app (a := c.p) (k := 1) (n := f.name.size) (by decide) (by rw [Nat.pow_one]; exact f1) (by omega) e1 hp)
  have hN : fileN b c = f.name.size := by unfold fileN; rw [g1, Int.toNat_natCast]
  have tB : textB b f.name.size ⟨c.p + 1, c.x⟩ = true := by unfold textB; rw [decide_eq_true_iff]; dsimp only; omega
  have tC : textC b f.name.size ⟨c.p + 1, c.x⟩ = ⟨c.p + 1 + f.name.size, c.x⟩ := by unfold textC; rw [tB, Bool.not_true, Bool.or_false]
  have h2 : file2 b c = ⟨c.p + 1 + f.name.size, c.x⟩ := by unfold file2; rw [hN, n1, tC]
  have tS : textS b f.name.size ⟨c.p + 1, c.x⟩ = f.name := by
    unfold textS
    rw [if_pos tB]
    apply ByteArray.ext
    apply Array.toList_inj.1
    rw [← cut_app e2 l2.symm hn.symm]
    unfold cutL
    simp [ByteArray.data_extract, List.take_drop]
  obtain ⟨n3, g3⟩ := next_is (c := ⟨c.p + 1 + f.name.size, c.x⟩) (k := 1) (get_app (a := c.p + 1 + f.name.size) (k := 1) (n := f.size.toNat) (by decide) (by omega) (by omega) e3 l3.symm)
  obtain ⟨n4, g4⟩ := next_is (c := ⟨c.p + 1 + f.name.size + 1, c.x⟩) (k := 8) (get_app (a := c.p + 1 + f.name.size + 1) (k := 8) (n := f.count.toNat) (by decide) (by omega) (by omega) e4 l4.symm)
  obtain ⟨n5, g5⟩ := next_is (c := ⟨c.p + 1 + f.name.size + 1 + 8, c.x⟩) (k := 4) (get_app (a := c.p + 1 + f.name.size + 1 + 8) (k := 4) (n := f.sum.toNat) (by decide) (by omega) (by omega) e5 l5.symm)
  refine ⟨?_, ?_⟩
  · unfold fileF
    rw [h2, hN, n1, tS, n3, g3]
    dsimp only
    rw [n4, g4]
    dsimp only
    rw [g5, Int.toNat_of_nonneg f2, Int.toNat_of_nonneg f4, Int.toNat_of_nonneg f6]
  · unfold fileE
    rw [h2, n3]
    dsimp only
    rw [n4]
    dsimp only
    rw [n5]
    simp only [Cu.mk.injEq, and_true]
    omega
def markS : ByteArray := ⟨#[77, 65, 78, 49]⟩
def head1 (b : ByteArray) : Cu := ⟨4 + 0, (textC b 4 ⟨0, false⟩).x || !decide (textS b 4 ⟨0, false⟩ = markS)⟩
def headE (b : ByteArray) : Cu := nextC b 1 (nextC b 2 (nextC b 2 (head1 b)))
def stN (b : ByteArray) : Int := getC b 2 (head1 b)
def psN (b : ByteArray) : Int := getC b 2 (nextC b 2 (head1 b))
def cntN (b : ByteArray) : Nat := (getC b 1 (nextC b 2 (nextC b 2 (head1 b)))).toNat
theorem headE_p (b : ByteArray) : (headE b).p = 9 := rfl
theorem cnt_lt (b : ByteArray) : cntN b < 256 := by
  unfold cntN
  have := getC_lt (b := b) (c := nextC b 2 (nextC b 2 (head1 b))) (k := 1) (by omega)
  omega
theorem head_fwd {b : ByteArray} (h : (headE b).x = false) : 9 ≤ b.size ∧ b.data.toList.take 9 = [77, 65, 78, 49] ++ (beL 2 (stN b).toNat ++ (beL 2 (psN b).toNat ++ beL 1 (cntN b))) := by
  obtain ⟨h1, p1, t1⟩ := next_fwd h
  obtain ⟨h2, p2, t2⟩ := next_fwd h1
  obtain ⟨h3, p3, t3⟩ := next_fwd h2
  unfold head1 at h3
  simp only [Bool.or_eq_false_iff, Bool.not_eq_false', decide_eq_true_eq] at h3
  obtain ⟨h4, h5⟩ := h3
  obtain ⟨_, p5, t5, _⟩ := text_fwd h4
  rw [h5] at t5
  have q1 : (nextC b 2 (nextC b 2 (head1 b))).p = 8 := rfl
  have q2 : (nextC b 2 (head1 b)).p = 6 := rfl
  have q3 : (head1 b).p = 4 := rfl
  rw [q1] at p1 t1
  rw [q2] at t2
  rw [q3] at t3
  refine ⟨p1, ?_⟩
  rw [show (9 : Nat) = 8 + 1 from rfl, t1, show (8 : Nat) = 6 + 2 from rfl, t2, show (6 : Nat) = 4 + 2 from rfl, t3, show (4 : Nat) = 0 + 4 from rfl, t5]
  unfold stN psN cntN
  simp only [List.append_assoc, List.take_zero, List.nil_append]
  rfl
theorem bs_data (l : List UInt8) : (bs l).data.toList = l := by simp [bs]
theorem head_bwd {m : Mn} (hm : mnB m = true) : (headE (bs (mnL m))).x = false ∧ stN (bs (mnL m)) = m.stage ∧ psN (bs (mnL m)) = m.pass ∧ cntN (bs (mnL m)) = m.files.length := by
  unfold mnB at hm
  simp only [Bool.and_eq_true, decide_eq_true_eq] at hm
  obtain ⟨⟨⟨a1, a2⟩, ⟨a3, a4⟩, a5⟩, _⟩ := hm
  have hd := bs_data (mnL m)
  obtain ⟨b, hb⟩ : ∃ b, bs (mnL m) = b := ⟨_, rfl⟩
  rw [hb] at hd ⊢
  unfold mnL at hd
  have e0 : b.data.toList = [] ++ ([77, 65, 78, 49] ++ (beL 2 m.stage.toNat ++ (beL 2 m.pass.toNat ++ (beL 1 m.files.length ++ (m.files.map flL).flatten)))) := by rw [hd]; rfl
  have e1 : b.data.toList = [77, 65, 78, 49] ++ (beL 2 m.stage.toNat ++ (beL 2 m.pass.toNat ++ (beL 1 m.files.length ++ (m.files.map flL).flatten))) := hd
  have e2 : b.data.toList = ([77, 65, 78, 49] ++ beL 2 m.stage.toNat) ++ (beL 2 m.pass.toNat ++ (beL 1 m.files.length ++ (m.files.map flL).flatten)) := by rw [e1, List.append_assoc]
  have e3 : b.data.toList = (([77, 65, 78, 49] ++ beL 2 m.stage.toNat) ++ beL 2 m.pass.toNat) ++ (beL 1 m.files.length ++ (m.files.map flL).flatten) := by rw [e2]; simp only [List.append_assoc]
  have hbs : 9 ≤ b.size := by
    have e : b.data.toList.length = b.size := rfl
    rw [← e, e1]
    simp only [List.length_append, beL_length, List.length_cons, List.length_nil]
    omega
  have tB : textB b 4 ⟨0, false⟩ = true := by unfold textB; rw [decide_eq_true_iff]; dsimp only; omega
  have tS : textS b 4 ⟨0, false⟩ = markS := by
    unfold textS
    rw [if_pos tB]
    apply ByteArray.ext
    apply Array.toList_inj.1
    have := cut_app (a := 0) (k := 4) e0 rfl rfl
    unfold cutL at this
    show _ = [77, 65, 78, 49]
    rw [← this]
    simp [ByteArray.data_extract]
  have h1 : head1 b = ⟨4, false⟩ := by
    unfold head1 textC
    rw [tB, tS, decide_eq_true rfl]
    rfl
  obtain ⟨n1, g1⟩ := next_is (c := ⟨4, false⟩) (k := 2) (get_app (a := 4) (k := 2) (n := m.stage.toNat) (by decide) (by omega) (by omega) e1 rfl)
  obtain ⟨n2, g2⟩ := next_is (c := ⟨6, false⟩) (k := 2) (get_app (a := 6) (k := 2) (n := m.pass.toNat) (by decide) (by omega) (by omega) e2 (by simp [beL_length]))
  obtain ⟨n3, g3⟩ := next_is (c := ⟨8, false⟩) (k := 1) (get_app (a := 8) (k := 1) (n := m.files.length) (by decide) (by omega) (by omega) e3 (by simp [beL_length]))
  unfold headE stN psN cntN
  rw [h1, n1, g1]
  dsimp only
  rw [n2, g2]
  dsimp only
  rw [n3, g3]
  refine ⟨rfl, by omega, by omega, by omega⟩
theorem mn_at2 {m : Mn} {l t : List Fl} {f : Fl} (h : m.files = l ++ f :: t) : ∃ p q, (bs (mnL m)).data.toList = p ++ (flL f ++ q) ∧ p.length = posN l := by
  refine ⟨[77, 65, 78, 49] ++ (beL 2 m.stage.toNat ++ (beL 2 m.pass.toNat ++ (beL 1 m.files.length ++ (l.map flL).flatten))), (t.map flL).flatten, ?_, ?_⟩
  · rw [bs_data]
    unfold mnL
    rw [h, List.map_append, List.flatten_append, List.map_cons, List.flatten_cons]
    simp only [List.append_assoc]
  · unfold posN
    rw [← flat_length]
    simp only [List.length_append, beL_length, List.length_cons, List.length_nil]
    omega
def PcAt (b : ByteArray) (i : Nat) (c : Cu) (L : List Fl) : Prop :=
  L.length = i ∧ c.p ≤ 9 + 300 * i ∧ (∀ f ∈ L, flK f) ∧
  (c.x = false → c.p ≤ b.size ∧ b.data.toList.take c.p = [77, 65, 78, 49] ++ (beL 2 (stN b).toNat ++ (beL 2 (psN b).toNat ++ (beL 1 (cntN b) ++ (L.map flL).flatten))) ∧ ∀ f ∈ L, flI f) ∧
  ∀ m, mnB m = true → sumsB m.files → b = bs (mnL m) → i ≤ m.files.length → c = ⟨posN (m.files.take i), false⟩ ∧ L = m.files.take i
theorem pc_start (b : ByteArray) : PcAt b 0 (headE b) [] := by
  refine ⟨rfl, by rw [headE_p]; omega, by simp, fun h => ?_, fun m hm _ hb _ => ?_⟩
  · obtain ⟨h1, h2⟩ := head_fwd h
    rw [headE_p]
    exact ⟨h1, by rw [h2]; simp, by simp⟩
  · subst hb
    obtain ⟨h1, _⟩ := head_bwd hm
    refine ⟨?_, by simp⟩
    have e : headE (bs (mnL m)) = ⟨(headE (bs (mnL m))).p, (headE (bs (mnL m))).x⟩ := rfl
    rw [e, h1, headE_p]
    rfl
theorem fileF_K {b : ByteArray} {c : Cu} (hs : b.size ≤ 1000) : flK (fileF b c) := by
  unfold flK fileF
  dsimp only
  refine ⟨?_, get_i64, get_i64, get_nat, ?_⟩
  · unfold maxLen textS
    split
    · rw [ByteArray.size_extract]; omega
    · show (0 : Nat) ≤ _; omega
  · have := getC_lt (b := b) (k := 4) (c := nextC b 8 (nextC b 1 (file2 b c))) (by omega)
    simpa using this
theorem pc_step {b : ByteArray} {i : Nat} {c : Cu} {L : List Fl} (h : PcAt b i c L) (hs : b.size ≤ 1000) (hi : i < cntN b) : PcAt b (i + 1) (fileE b c) (L ++ [fileF b c]) := by
  obtain ⟨h1, h2, h3, h4, h5⟩ := h
  have hN := fileN_lt b c
  have hp := fileE_p b c
  refine ⟨by simp [h1], by rw [hp]; omega, ?_, fun hx => ?_, fun m hm hsm hb hle => ?_⟩
  · intro f hf
    rw [List.mem_append, List.mem_singleton] at hf
    rcases hf with hf | rfl
    · exact h3 f hf
    · exact fileF_K hs
  · obtain ⟨a1, a2, a3, a4⟩ := file_fwd hx
    obtain ⟨_, b2, b3⟩ := h4 a1
    refine ⟨a2, ?_, ?_⟩
    · rw [a3, b2, List.map_append, List.flatten_append]
      simp only [List.append_assoc, List.map_cons, List.map_nil, List.flatten_cons, List.flatten_nil, List.append_nil]
    · intro f hf
      rw [List.mem_append, List.mem_singleton] at hf
      rcases hf with hf | rfl
      · exact b3 f hf
      · exact a4
  · obtain ⟨e1, e2⟩ := h5 m hm hsm hb (by omega)
    have hlt : i < m.files.length := by omega
    have hmb : newB [] m.files = true := by unfold mnB at hm; rw [Bool.and_eq_true] at hm; exact hm.2
    have hfb := newB_all hmb _ (List.getElem_mem hlt)
    have hfi := flB_I hfb (hsm _ (List.getElem_mem hlt))
    have hfc : m.files[i].count ≤ 4611686018427387904 := by
      unfold flB at hfb
      simp only [Bool.and_eq_true, decide_eq_true_eq] at hfb
      exact hfb.2.2.2
    obtain ⟨p, q, e, hpl⟩ := mn_at2 (m := m) (l := m.files.take i) (f := m.files[i]) (t := m.files.drop (i + 1)) (by rw [← List.drop_eq_getElem_cons hlt, List.take_append_drop])
    rw [← hb] at e
    obtain ⟨k1, k2⟩ := file_bwd (c := c) hfi (by omega) e (by rw [e1, hpl])
    refine ⟨?_, ?_⟩
    · rw [k2, pos_step hlt, e1]
    · rw [k1, e2, List.take_succ_eq_append_getElem hlt]
theorem pc_yes {b s : ByteArray} {c : Cu} {L : List Fl} (h : PcAt b (cntN b) c L) (ho : opB s = true) (hb : b = opS s) (hx : c.x = false) (hp : c.p = b.size) (hm : mnB ⟨stN b, psN b, L⟩ = true) : mnIs s ⟨stN b, psN b, L⟩ := by
  obtain ⟨h1, _, h3, h4, _⟩ := h
  obtain ⟨_, e, hI⟩ := h4 hx
  have hall : b.data.toList.take c.p = b.data.toList := by rw [hp]; exact List.take_of_length_le (Nat.le_refl _)
  rw [hall] at e
  refine ⟨hm, fun f hf => (hI f hf).2.2.2, ?_⟩
  have e2 : bs (mnL ⟨stN b, psN b, L⟩) = b := by
    apply ByteArray.ext
    apply Array.toList_inj.1
    rw [bs_data, e]
    unfold mnL
    dsimp only
    rw [h1]
  unfold mnS
  rw [e2, hb, opS_yes ho]
  have h4s : 4 ≤ s.size := by
    have h' := ho
    unfold opB at h'
    simp only [Bool.and_eq_true, decide_eq_true_eq] at h'
    omega
  exact (cl_is s h4s).2 ho
theorem pc_no {b s : ByteArray} {c : Cu} {L : List Fl} (h : PcAt b (cntN b) c L) (hb : b = opS s) (hn : ¬ (c.x = false ∧ c.p = b.size ∧ mnB ⟨stN b, psN b, L⟩ = true)) (m : Mn) : ¬ mnIs s m := fun ⟨k1, k2, k3⟩ => by
  obtain ⟨_, _, _, _, h5⟩ := h
  have e : b = bs (mnL m) := by rw [hb, ← k3]; exact (op_cl _).2
  obtain ⟨_, a1, a2, a3⟩ := head_bwd k1
  rw [← e] at a1 a2 a3
  obtain ⟨e1, e2⟩ := h5 m k1 k2 e (by omega)
  rw [a3, List.take_length] at e1 e2
  refine hn ⟨by rw [e1], ?_, ?_⟩
  · rw [e1, e, bs_size, mnL_length]
    rfl
  · rw [a1, a2, e2]
    exact k1
end MnPlain
end Go.Proofs.YtignfbdgpgidpaaGreatDoor
