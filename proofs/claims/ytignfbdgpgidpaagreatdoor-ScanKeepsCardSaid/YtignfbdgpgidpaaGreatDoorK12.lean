/- In one text: CrcTurnPlain, CrcTurned, CrcBack, MnFact, OctPlain2, MnCut, MnStep, MnArg, ScArg, RfsRise, RfsRisen, RfsA. -/
import Derived.Test.YtignfbdgpgidpaaGreatDoorK10
import Derived.Test.YtignfbdgpgidpaaGreatDoorK11
import Derived.Deep.RegionHeld3
import Derived.BigRegion
import Derived.Lib.ConvBytes
import Derived.KernelRfl
import Derived.Test.YtignfbdgpgidpaaGreatDoorK00
import Derived.Test.YtignfbdgpgidpaaGreatDoorK01
import Derived.Test.YtignfbdgpgidpaaGreatDoorK09
/- Plain facts on bytes of which bits are turned, without the model. -/
namespace Go.Proofs.YtignfbdgpgidpaaGreatDoor
namespace CrcPlain
theorem le_inj : ∀ {a b : List UInt8}, a.length = b.length → le a = le b → a = b
  | [], [], _, _ => rfl
  | x :: a, y :: b, hl, h => by
    have hx := x.toNat_lt
    have hy := y.toNat_lt
    have h' : x.toNat + 256 * le a = y.toNat + 256 * le b := h
    have h1 : x = y := UInt8.toNat_inj.1 (by omega)
    have h2 := le_inj (a := a) (b := b) (by simpa using hl) (by omega)
    rw [h1, h2]
def Turn (l l' : List UInt8) (first w : Nat) : Prop := l'.length = l.length ∧ le l' = le l ^^^ 2 ^ first * w
theorem Turn.zero {l l' : List UInt8} {first : Nat} (h : Turn l l' first 0) : l' = l := by
  apply le_inj h.1
  rw [h.2, Nat.mul_zero, Nat.xor_zero]
theorem Turn.apart {l l' : List UInt8} {first w : Nat} (h : Turn l l' first w) (hw : w < 4294967296) (hw0 : w ≠ 0) (hf : first ≤ 8 * l.length) (r : Nat) : reg r l' ≠ reg r l := by
  refine reg_apart h.1 hw hw0 (by rw [h.1]; exact hf) ?_
  rw [h.2, Nat.xor_comm (le l), Nat.xor_assoc, Nat.xor_self, Nat.xor_zero]
end CrcPlain
end Go.Proofs.YtignfbdgpgidpaaGreatDoor
/- The contract of the document's own turning of bits: by a walk of its text. -/
namespace Go.Proofs.YtignfbdgpgidpaaGreatDoor
open Go.RowKit CrcPlain
set_option linter.unusedVariables false
set_option linter.unusedSimpArgs false
set_option maxRecDepth 20000
end Go.Proofs.YtignfbdgpgidpaaGreatDoor
/- Plain facts: what is closed is opened again; with bits turned nothing is opened. -/
namespace Go.Proofs.YtignfbdgpgidpaaGreatDoor
open Go.RowKit CrcPlain
set_option linter.unusedVariables false
set_option linter.unusedSimpArgs false
set_option maxRecDepth 20000
theorem ahead_cl (s : ByteArray) : ahead (cl s) = s := by
  unfold ahead
  rw [cl_size]
  unfold cl
  apply ByteArray.ext
  apply Array.toList_inj.1
  have : s.size + 4 - 4 = s.size := by omega
  rw [this]
  simp [ByteArray.data_append]
  exact List.take_of_length_le (by simp)
theorem op_cl (s : ByteArray) : opB (cl s) = true ∧ opS (cl s) = s := by
  have h : opB (cl s) = true := (cl_is (cl s) (by rw [cl_size]; omega)).1 (by rw [ahead_cl])
  exact ⟨h, by rw [opS_yes h, ahead_cl]⟩
end Go.Proofs.YtignfbdgpgidpaaGreatDoor
/- Plain facts of a manifest: a manifest comes back, a turned one does not; a file that was put is found. -/
namespace Go.Proofs.YtignfbdgpgidpaaGreatDoor
open Go.RowKit FsPlain CrcPlain OctPlain
set_option linter.unusedVariables false
set_option linter.unusedSimpArgs false
namespace MnPlain
def sumsB (l : List Fl) : Prop := ∀ f ∈ l, 0 ≤ f.sum ∧ f.sum < 4294967296
theorem flB_I {f : Fl} (h : flB f = true) (hs : 0 ≤ f.sum ∧ f.sum < 4294967296) : flI f := by
  unfold flB rightB at h
  simp only [Bool.and_eq_true, decide_eq_true_eq] at h
  obtain ⟨⟨_, _, h1⟩, ⟨h2, h3⟩, h4, h5⟩ := h
  have : f.name.data.toList.length = f.name.size := rfl
  exact ⟨by omega, ⟨by omega, by omega⟩, ⟨h4, by omega⟩, hs⟩
theorem newB_all : ∀ {l : List Fl} {a : List Fl}, newB a l = true → ∀ f ∈ l, flB f = true
  | [], _, _, f, hf => by simp at hf
  | g :: l, a, h, f, hf => by
    unfold newB at h
    simp only [Bool.and_eq_true] at h
    rcases List.mem_cons.1 hf with rfl | hf
    · exact h.1.1
    · exact newB_all h.2 f hf
def mnS (m : Mn) : ByteArray := cl (bs (mnL m))
theorem mnS_open (m : Mn) : opB (mnS m) = true := (op_cl _).1
theorem mnS_inj {a b : Mn} (ha : mnB a = true) (hb : mnB b = true) (sa : sumsB a.files) (sb : sumsB b.files) (h : mnS a = mnS b) : a = b := by
  have h1 : bs (mnL a) = bs (mnL b) := by
    have e1 := (op_cl (bs (mnL a))).2
    have e2 := (op_cl (bs (mnL b))).2
    unfold mnS at h
    rw [← e1, h, e2]
  have h2 : mnL a = mnL b := by
    have e := congrArg (fun s : ByteArray => s.data.toList) h1
    have k : ∀ l : List UInt8, (bs l).data.toList = l := fun l => by simp [bs]
    have e2 : (bs (mnL a)).data.toList = (bs (mnL b)).data.toList := e
    rw [k, k] at e2
    exact e2
  have na : newB [] a.files = true := by unfold mnB at ha; rw [Bool.and_eq_true] at ha; exact ha.2
  have nb : newB [] b.files = true := by unfold mnB at hb; rw [Bool.and_eq_true] at hb; exact hb.2
  exact mnL_inj ha hb (fun f hf => flB_I (newB_all na f hf) (sa f hf)) (fun f hf => flB_I (newB_all nb f hf) (sb f hf)) h2
def mnIs (s : ByteArray) (m : Mn) : Prop := mnB m = true ∧ sumsB m.files ∧ mnS m = s
theorem mnIs_one {s : ByteArray} {a b : Mn} (ha : mnIs s a) (hb : mnIs s b) : a = b := mnS_inj ha.1 hb.1 ha.2.1 hb.2.1 (ha.2.2.trans hb.2.2.symm)
theorem mnIs_shut {s : ByteArray} (h : opB s = false) (m : Mn) : ¬ mnIs s m := fun k => by
  have := mnS_open m
  rw [k.2.2, h] at this
  cases this
def findF (n : ByteArray) : List Fl → Option Fl
  | [] => none
  | f :: t => if f.name = n then some f else findF n t
theorem find_ahead {n : ByteArray} : ∀ {l m : List Fl}, (∀ f ∈ l, f.name ≠ n) → findF n (l ++ m) = findF n m
  | [], _, _ => rfl
  | f :: t, m, h => by
    show (if f.name = n then some f else findF n (t ++ m)) = findF n m
    rw [if_neg (h f (by simp))]
    exact find_ahead (l := t) fun x hx => h x (by simp [hx])
theorem flL_length (f : Fl) : (flL f).length = 14 + f.name.size := by
  unfold flL
  simp only [List.length_append, beL_length]
  have : f.name.data.toList.length = f.name.size := rfl
  omega
theorem mnL_length (m : Mn) : (mnL m).length = 9 + (m.files.map fun f => 14 + f.name.size).sum := by
  unfold mnL
  simp only [List.length_append, beL_length, List.length_flatten, List.map_map, List.length_cons, List.length_nil]
  have e : (m.files.map (List.length ∘ flL)) = m.files.map fun f => 14 + f.name.size := List.map_congr_left fun f _ => flL_length f
  rw [e]; omega
theorem mnS_size (m : Mn) : (mnS m).size = 13 + (m.files.map fun f => 14 + f.name.size).sum := by
  unfold mnS
  rw [cl_size, bs_size, mnL_length]; omega
end MnPlain
end Go.Proofs.YtignfbdgpgidpaaGreatDoor
/- Plain facts on the number of some bytes of a text. -/
namespace Go.Proofs.YtignfbdgpgidpaaGreatDoor
namespace OctPlain
theorem cutL_take (s : ByteArray) (a k j : Nat) (h : a + k ≤ s.size) (hj : j < k) : (cutL s a k).take (j + 1) = (cutL s a k).take j ++ [s[a + j]'(by omega)] := by
  have hl := cutL_length s a k h
  rw [List.take_succ_eq_append_getElem (by omega)]
  congr 2
  simp only [cutL, List.getElem_take, List.getElem_drop, Array.getElem_toList]
  rfl
theorem getB_no {s : ByteArray} {a k : Int} (h : ¬ ((1 ≤ k ∧ k ≤ 8) ∧ 0 ≤ a ∧ a + k ≤ s.size)) : getB s a k = false := by
  unfold getB
  rw [decide_eq_false_iff_not]
  intro hh; exact h ⟨hh.1, hh.2.1, hh.2.2.1⟩
theorem getN_no {s : ByteArray} {a k : Int} (h : getB s a k = false) : getN s a k = 0 := by
  unfold getN; rw [h]; rfl
theorem getB_yes {s : ByteArray} {p k : Nat} (hk : 1 ≤ k ∧ k ≤ 8) (hp : p + k ≤ s.size) (h : num (cutL s p k) < 9223372036854775808) : getB s p k = true := by
  unfold getB
  rw [decide_eq_true_iff, Int.toNat_natCast, Int.toNat_natCast]
  omega
theorem getN_yes {s : ByteArray} {p k : Nat} (h : getB s p k = true) : getN s p k = num (cutL s p k) := by
  unfold getN; rw [if_pos h, Int.toNat_natCast, Int.toNat_natCast]
end OctPlain
end Go.Proofs.YtignfbdgpgidpaaGreatDoor
/- Plain facts of a manifest's bytes: where each field lies; steps of the loops that walk files. -/
namespace Go.Proofs.YtignfbdgpgidpaaGreatDoor
open Go.RowKit FsPlain CrcPlain OctPlain
set_option linter.unusedVariables false
set_option linter.unusedSimpArgs false
namespace MnPlain
theorem cut_app {s : ByteArray} {p x q : List UInt8} {a k : Nat} (h : s.data.toList = p ++ (x ++ q)) (ha : a = p.length) (hk : k = x.length) : cutL s a k = x := by
  subst ha hk
  unfold cutL
  rw [h, List.drop_left, List.take_left]
theorem get_app {s : ByteArray} {p q : List UInt8} {k n a : Nat} (hk : 1 ≤ k ∧ k ≤ 8) (hn : n < 256 ^ k) (hn2 : n < 9223372036854775808) (h : s.data.toList = p ++ (beL k n ++ q)) (ha : a = p.length) : getB s (a : Int) (k : Int) = true ∧ getN s (a : Int) (k : Int) = (n : Int) := by
  have hc := cut_app (k := k) h ha (by rw [beL_length])
  have hs : s.size = p.length + (k + q.length) := by
    have e : s.data.toList.length = s.size := rfl
    rw [← e, h, List.length_append, List.length_append, beL_length]
  have hb : getB s (a : Int) (k : Int) = true := getB_yes hk (by omega) (by rw [hc, num_beL k n hn]; exact hn2)
  exact ⟨hb, by rw [getN_yes hb, hc, num_beL k n hn]⟩
def posN (l : List Fl) : Nat := 9 + (l.map fun f => 14 + f.name.size).sum
theorem posN_snoc (l : List Fl) (f : Fl) : posN (l ++ [f]) = posN l + 14 + f.name.size := by
  unfold posN
  rw [List.map_append, List.sum_append]
  simp; omega
theorem flat_length (l : List Fl) : ((l.map flL).flatten).length = (l.map fun f => 14 + f.name.size).sum := by
  rw [List.length_flatten, List.map_map]
  congr 1
  exact List.map_congr_left fun f _ => flL_length f
end MnPlain
end Go.Proofs.YtignfbdgpgidpaaGreatDoor
/- Plain facts of a manifest: the loops that walk its files, step by step. -/
namespace Go.Proofs.YtignfbdgpgidpaaGreatDoor
open Go.RowKit FsPlain CrcPlain OctPlain
set_option linter.unusedVariables false
set_option linter.unusedSimpArgs false
namespace MnPlain
theorem find_at {n : ByteArray} {l : List Fl} {i : Nat} (hi : i < l.length) (h : ∀ j (hj : j < i), l[j].name ≠ n) : findF n l = if l[i].name = n then some l[i] else findF n (l.drop (i + 1)) := by
  have e : l = l.take i ++ (l[i] :: l.drop (i + 1)) := by rw [← List.drop_eq_getElem_cons hi, List.take_append_drop]
  have k : ∀ f ∈ l.take i, f.name ≠ n := fun f hf => by
    obtain ⟨j, hj, rfl⟩ := List.mem_iff_getElem.1 hf
    rw [List.getElem_take]
    rw [List.length_take] at hj
    exact h j (by omega)
  have e2 : findF n l = findF n (l.take i ++ (l[i] :: l.drop (i + 1))) := congrArg _ e
  rw [e2, find_ahead k]
  rfl
theorem find_no {n : ByteArray} {l : List Fl} (h : ∀ j (hj : j < l.length), l[j].name ≠ n) : findF n l = none := by
  have := find_ahead (n := n) (l := l) (m := []) fun f hf => by
    obtain ⟨j, hj, rfl⟩ := List.mem_iff_getElem.1 hf
    exact h j hj
  rw [List.append_nil] at this
  exact this
theorem new_step {l : List Fl} {i : Nat} (hi : i < l.length) : newB (l.take i) (l.drop i) = (flB l[i] && ((l.take i).all fun g => decide (g.name ≠ l[i].name)) && newB (l.take (i + 1)) (l.drop (i + 1))) := by
  rw [List.drop_eq_getElem_cons hi]
  show (flB l[i] && ((l.take i).all fun g => decide (g.name ≠ l[i].name)) && newB (l.take i ++ [l[i]]) (l.drop (i + 1))) = _
  rw [List.take_succ_eq_append_getElem hi]
theorem new_end (l : List Fl) : newB (l.take l.length) (l.drop l.length) = true := by rw [List.drop_length]; unfold newB; rfl
theorem all_ne {l : List Fl} {i : Nat} (hi : i < l.length) (n : ByteArray) : ((l.take i).all fun g => decide (g.name ≠ n)) = true ↔ ∀ j (hj : j < i), l[j].name ≠ n := by
  rw [List.all_eq_true]
  constructor
  · intro h j hj
    have := h l[j] (by rw [List.mem_iff_getElem]; exact ⟨j, by rw [List.length_take]; omega, by rw [List.getElem_take]⟩)
    simpa using this
  · intro h f hf
    obtain ⟨j, hj, rfl⟩ := List.mem_iff_getElem.1 hf
    rw [List.length_take] at hj
    have := h j (by omega)
    simpa [List.getElem_take] using this
theorem bytes_step {l : List Fl} {i : Nat} (hi : i < l.length) : ((l.take (i + 1)).map flL).flatten = ((l.take i).map flL).flatten ++ flL l[i] := by
  rw [List.take_succ_eq_append_getElem hi, List.map_append, List.flatten_append]
  simp
theorem pos_step {l : List Fl} {i : Nat} (hi : i < l.length) : posN (l.take (i + 1)) = posN (l.take i) + 14 + l[i].name.size := by
  rw [List.take_succ_eq_append_getElem hi, posN_snoc]
end MnPlain
end Go.Proofs.YtignfbdgpgidpaaGreatDoor
/- An argument that is a slice of a manifest's files. -/
namespace Go.Proofs.YtignfbdgpgidpaaGreatDoor
open Go.RowKit Go.ChangeShapes Go.WideShapes Go.Deep MnPlain
set_option linter.unusedVariables false
set_option linter.unusedSimpArgs false
set_option maxRecDepth 20000
def FlAt (w : World) (b o : Nat) (x : Fl) : Prop := w.cell? ⟨b, o, none⟩ = some (.string x.name) ∧ w.cell? ⟨b, o + 1, none⟩ = some (.int .i64 x.size) ∧ w.cell? ⟨b, o + 2, none⟩ = some (.int .i64 x.count) ∧ w.cell? ⟨b, o + 3, none⟩ = some (.int .u32 x.sum)
def FlRow (w : World) (b o : Nat) (l : List Fl) : Prop := b < w.heap.size ∧ ∀ (j : Nat) (x : Fl), l[j]? = some x → FlAt w b (o + j * 4) x
def LiesFl (w : World) (v : Value) (l : List Fl) : Prop := ∃ a c, v = .slice a l.length c ∧ l.length ≤ c ∧ (l = [] ∨ ∃ b o, a = some ⟨b, o, none⟩ ∧ FlRow w b o l)
def flK (x : Fl) : Prop := x.name.size ≤ maxLen ∧ I64 x.size ∧ I64 x.count ∧ 0 ≤ x.sum ∧ x.sum < 4294967296
theorem add_lit19 (b o i : Nat) : (⟨b, o, none⟩ : Addr).add i = ⟨b, o + i, none⟩ := by by_cases h : i = 0 <;> simp [Addr.add, h]
theorem FlRow.only {w w' : World} {b o : Nat} {l : List Fl} {C : Nat → Prop} (h : FlRow w b o l) (q : Only C w w') (hC : ∀ b, b < w.heap.size → ¬ C b) : FlRow w' b o l :=
  ⟨Nat.lt_of_lt_of_le h.1 q.size, fun j x hj => ⟨by rw [q.cell (p := ⟨b, o + j * 4, none⟩) h.1 (hC b h.1)]; exact (h.2 j x hj).1, by rw [q.cell (p := ⟨b, o + j * 4 + 1, none⟩) h.1 (hC b h.1)]; exact (h.2 j x hj).2.1, by rw [q.cell (p := ⟨b, o + j * 4 + 2, none⟩) h.1 (hC b h.1)]; exact (h.2 j x hj).2.2.1, by rw [q.cell (p := ⟨b, o + j * 4 + 3, none⟩) h.1 (hC b h.1)]; exact (h.2 j x hj).2.2.2⟩⟩
theorem FlRow.gr {w w' : World} {b o : Nat} {l : List Fl} (h : FlRow w b o l) (g : Gr w w') : FlRow w' b o l := h.only (Only.ofGr (B := fun _ => False) g) fun _ _ k => k
theorem LiesFl.gr {w w' : World} {v : Value} {l : List Fl} (h : LiesFl w v l) (g : Gr w w') : LiesFl w' v l := by
  obtain ⟨a, c, e, hc, h⟩ := h
  exact ⟨a, c, e, hc, h.imp id fun ⟨b, o, e2, k⟩ => ⟨b, o, e2, k.gr g⟩⟩
end Go.Proofs.YtignfbdgpgidpaaGreatDoor
/- An argument that is a slice of the document's files. -/
namespace Go.Proofs.YtignfbdgpgidpaaGreatDoor
open Go.RowKit Go.ChangeShapes Go.WideShapes Go.Deep
set_option linter.unusedVariables false
set_option linter.unusedSimpArgs false
set_option maxRecDepth 20000
structure Fy where
  name : ByteArray
  data : ByteArray
def FyAt (w : World) (b o : Nat) (x : Fy) : Prop := w.cell? ⟨b, o, none⟩ = some (.string x.name) ∧ w.cell? ⟨b, o + 1, none⟩ = some (.string x.data)
def LiesFy (w : World) (v : Value) (l : List Fy) : Prop := ∃ a c, v = .slice a l.length c ∧ l.length ≤ c ∧ (l = [] ∨ ∃ b o, a = some ⟨b, o, none⟩ ∧ b < w.heap.size ∧ ∀ (j : Nat) (x : Fy), l[j]? = some x → FyAt w b (o + j * 3) x)
def fyK (x : Fy) : Prop := x.name.size ≤ maxLen ∧ x.data.size ≤ maxLen
theorem LiesFy.gr {w w' : World} {v : Value} {l : List Fy} (h : LiesFy w v l) (g : Gr w w') : LiesFy w' v l := by
  obtain ⟨a, c, e, hc, h⟩ := h
  exact ⟨a, c, e, hc, h.imp id fun ⟨b, o, e2, hb, k⟩ => ⟨b, o, e2, Nat.lt_of_lt_of_le hb g.size, fun j x hj => ⟨(Below.cell g (p := ⟨b, _, none⟩) hb).trans (k j x hj).1, (Below.cell g (p := ⟨b, _, none⟩) hb).trans (k j x hj).2⟩⟩⟩
theorem fy_get {w : World} {a : Option Addr} {n c : Nat} {l : List Fy} (h : LiesFy w (.slice a n c) l) {i : Nat} (hi : i < l.length) : n = l.length ∧ n ≤ c ∧ ∃ b o, a = some ⟨b, o, none⟩ ∧ b < w.heap.size ∧ FyAt w b (o + i * 3) l[i] := by
  obtain ⟨a', c', e, hc, h⟩ := h
  simp only [Value.slice.injEq] at e
  obtain ⟨rfl, rfl, rfl⟩ := e
  rcases h with rfl | ⟨b, o, rfl, h1, h2⟩
  · simp at hi
  · exact ⟨rfl, hc, b, o, rfl, h1, h2 i _ (List.getElem?_eq_getElem hi)⟩
theorem fy_of {W : World} {H : Type} {enc : TypeId × Value → H} {fuel : Nat} {y : DataW H × List MemPlace} {c0 c1 c2 : Value} (h : DataW.trod enc Tryz.prog W 0 (fun _ => true) true fuel 56 [c0, c1, c2] = some y) :
    ∃ x : Fy, c0 = .string x.name ∧ c1 = .string x.data ∧ fyK x := by
  obtain ⟨xs, n, _, hx, _, hlen, hg⟩ := DataW.trod_struct Tryz.underlying56 h
  have k0 : Tryz.prog.cellsOf 9 = 1 := by kernel_rfl
  have g0 : DataW.trod enc Tryz.prog W 0 (fun _ => true) true n 9 ((([c0, c1, c2] : List Value).drop 0).take (Tryz.prog.cellsOf 9)) = xs[0]? := hg 0 _ rfl
  have g1 : DataW.trod enc Tryz.prog W 0 (fun _ => true) true n 9 ((([c0, c1, c2] : List Value).drop 1).take (Tryz.prog.cellsOf 9)) = xs[1]? := hg 1 _ rfl
  have hl : xs.length = 3 := hlen
  rw [k0, List.getElem?_eq_getElem (by omega)] at g0
  rw [k0, List.getElem?_eq_getElem (by omega)] at g1
  obtain ⟨s, e0, b0⟩ := rd_string Tryz.underlying9 ⟨H, enc, n, _, g0⟩
  obtain ⟨t, e1, b1⟩ := rd_string Tryz.underlying9 ⟨H, enc, n, _, g1⟩
  exact ⟨⟨s, t⟩, e0, e1, b0, b1⟩
theorem liesFy_in {w : World} {t : TypeId} {v : Value} (ht : Tryz.prog.underlying t = some (.slice 56)) (h : Rd Tryz.prog w t v) : ∃ l : List Fy, LiesFy w v l ∧ l.length ≤ maxLen ∧ ∀ x ∈ l, fyK x := by
  obtain ⟨H, enc, fuel, y, h⟩ := h
  rcases open_slice ht h with ⟨h1, _⟩ | ⟨a, len, cap, m, n, D, Pl, h1, hb, hl, hm, hmm, _, hi⟩
  · exact ⟨[], ⟨none, 0, by simpa using h1, Nat.le_refl _, .inl rfl⟩, by simp, by simp⟩
  · have hv : v = .slice (some a) len cap := by simpa using h1
    simp only [if_true] at hmm
    subst hmm
    have k3 : Tryz.prog.cellsOf 56 = 3 := by kernel_rfl
    have el : ∀ i, i < len → ∃ x : Fy, (w.cell? (a.add (i * 3)) = some (.string x.name) ∧ w.cell? (a.add (i * 3 + 1)) = some (.string x.data)) ∧ fyK x := by
      intro i hlt
      obtain ⟨cs', hcs, htr⟩ := hi i (by omega)
      rw [k3] at hcs
      obtain ⟨_, hcl, hat⟩ := World.cells?_some hcs
      match cs', hcl with
      | [c0, c1, c2], _ =>
        obtain ⟨x, rfl, rfl, h3⟩ := fy_of htr
        refine ⟨x, ⟨?_, ?_⟩, h3⟩
        · have := hat (i := 0) (by omega); rw [Go.Deep.add_add] at this; simpa using this
        · have := hat (i := 1) (by omega); rw [Go.Deep.add_add] at this; simpa using this
    by_cases h0 : len = 0
    · subst h0
      exact ⟨[], ⟨some a, m, hv, Nat.zero_le _, .inl rfl⟩, by simp, by simp⟩
    · obtain ⟨x0, hx0, _⟩ := el 0 (by omega)
      have hspot : a.spot = none := by simpa [Addr.add] using World.cell?_spot hx0.1
      have hlt : a.block < w.heap.size := by simpa [Addr.add] using World.block_lt_of_cell? w _ hx0.1
      obtain ⟨b, off, spot⟩ := a
      simp only at hspot hlt
      subst hspot
      have hex : ∀ i : Nat, ∃ x : Fy, i < len → FyAt w b (off + i * 3) x ∧ fyK x := by
        intro i
        by_cases h : i < len
        · obtain ⟨x, ⟨q0, q1⟩, hx⟩ := el i h
          rw [add_lit19] at q0 q1
          exact ⟨x, fun _ => ⟨⟨q0, by rw [Nat.add_assoc]; exact q1⟩, hx⟩⟩
        · exact ⟨x0, fun h' => absurd h' h⟩
      obtain ⟨f, hf⟩ := Classical.axiomOfChoice hex
      refine ⟨(List.range len).map f, ⟨some ⟨b, off, none⟩, m, by rw [hv]; simp, by simpa using hl, .inr ⟨b, off, rfl, hlt, ?_⟩⟩, by simp; omega, ?_⟩
      · intro j x hj
        rw [List.getElem?_map, Option.map_eq_some_iff] at hj
        obtain ⟨i, hi1, rfl⟩ := hj
        obtain ⟨hi2, rfl⟩ := List.getElem?_eq_some_iff.1 hi1
        simp only [List.getElem_range]
        exact (hf j (by simpa using hi2)).1
      · intro x hx
        obtain ⟨i, hi1, rfl⟩ := List.mem_map.1 hx
        exact (hf i (List.mem_range.1 hi1)).2
end Go.Proofs.YtignfbdgpgidpaaGreatDoor
/- The document's disk: Rise. -/
namespace Go.Proofs.YtignfbdgpgidpaaGreatDoor
open Go.RowKit FsPlain
set_option linter.unusedVariables false
set_option linter.unusedSimpArgs false
set_option maxRecDepth 20000
end Go.Proofs.YtignfbdgpgidpaaGreatDoor
/- The document's disk: Rise, its contract. -/
namespace Go.Proofs.YtignfbdgpgidpaaGreatDoor
open Go.RowKit FsPlain
set_option linter.unusedVariables false
set_option linter.unusedSimpArgs false
set_option maxRecDepth 20000
end Go.Proofs.YtignfbdgpgidpaaGreatDoor
/- The document's disk as a part of a world: what its calls leave. -/
namespace Go.Proofs.YtignfbdgpgidpaaGreatDoor
open Go.RowKit FsPlain
set_option linter.unusedVariables false
set_option linter.unusedSimpArgs false
set_option maxRecDepth 20000
end Go.Proofs.YtignfbdgpgidpaaGreatDoor
