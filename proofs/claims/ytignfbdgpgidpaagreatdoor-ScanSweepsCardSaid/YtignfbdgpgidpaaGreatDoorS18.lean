/- In one text: CrcBack, MnFact, OctPlain2, MnCut, MnStep, MnArg, MnRef1, MnRef2. -/
import Derived.Test.YtignfbdgpgidpaaGreatDoorS17
import Derived.Test.YtignfbdgpgidpaaGreatDoorS16
import Derived.Test.YtignfbdgpgidpaaGreatDoorS00
import Derived.Test.YtignfbdgpgidpaaGreatDoorS01
/- Plain facts: what is closed is opened again; with bits turned nothing is opened. -/
namespace Go.Proofs.YtignfbdgpgidpaaGreatDoor
open Go.RowKit CrcPlain
set_option linter.unusedVariables false
set_option linter.unusedSimpArgs false
set_option maxRecDepth 20000
theorem ahead_cl (s : ByteArray) : ahead (cl s) = s := by
  unfold ahead
  rw [cl_size]
  unfold cl
  apply ByteArray.ext
  apply Array.toList_inj.1
  have : s.size + 4 - 4 = s.size := by omega
  rw [this]
  simp [ByteArray.data_append]
  exact List.take_of_length_le (by simp)
theorem op_cl (s : ByteArray) : opB (cl s) = true ∧ opS (cl s) = s := by
  have h : opB (cl s) = true := (cl_is (cl s) (by rw [cl_size]; omega)).1 (by rw [ahead_cl])
  exact ⟨h, by rw [opS_yes h, ahead_cl]⟩
end Go.Proofs.YtignfbdgpgidpaaGreatDoor
/- Plain facts of a manifest: a manifest comes back, a turned one does not; a file that was put is found. -/
namespace Go.Proofs.YtignfbdgpgidpaaGreatDoor
open Go.RowKit FsPlain CrcPlain OctPlain
set_option linter.unusedVariables false
set_option linter.unusedSimpArgs false
namespace MnPlain
def sumsB (l : List Fl) : Prop := ∀ f ∈ l, 0 ≤ f.sum ∧ f.sum < 4294967296
theorem flB_I {f : Fl} (h : flB f = true) (hs : 0 ≤ f.sum ∧ f.sum < 4294967296) : flI f := by
  unfold flB rightB at h
  simp only [Bool.and_eq_true, decide_eq_true_eq] at h
  obtain ⟨⟨_, _, h1⟩, ⟨h2, h3⟩, h4, h5⟩ := h
  have : f.name.data.toList.length = f.name.size := rfl
  exact ⟨by omega, ⟨by omega, by omega⟩, ⟨h4, by omega⟩, hs⟩
theorem newB_all : ∀ {l : List Fl} {a : List Fl}, newB a l = true → ∀ f ∈ l, flB f = true
  | [], _, _, f, hf => by simp at hf
  | g :: l, a, h, f, hf => by
    unfold newB at h
    simp only [Bool.and_eq_true] at h
    rcases List.mem_cons.1 hf with rfl | hf
    · exact h.1.1
    · exact newB_all h.2 f hf
def mnS (m : Mn) : ByteArray := cl (bs (mnL m))
theorem mnS_open (m : Mn) : opB (mnS m) = true := (op_cl _).1
theorem mnS_inj {a b : Mn} (ha : mnB a = true) (hb : mnB b = true) (sa : sumsB a.files) (sb : sumsB b.files) (h : mnS a = mnS b) : a = b := by
  have h1 : bs (mnL a) = bs (mnL b) := by
    have e1 := (op_cl (bs (mnL a))).2
    have e2 := (op_cl (bs (mnL b))).2
    unfold mnS at h
    rw [← e1, h, e2]
  have h2 : mnL a = mnL b := by
    have e := congrArg (fun s : ByteArray => s.data.toList) h1
    have k : ∀ l : List UInt8, (bs l).data.toList = l := fun l => by simp [bs]
    have e2 : (bs (mnL a)).data.toList = (bs (mnL b)).data.toList := e
    rw [k, k] at e2
    exact e2
  have na : newB [] a.files = true := by unfold mnB at ha; rw [Bool.and_eq_true] at ha; exact ha.2
  have nb : newB [] b.files = true := by unfold mnB at hb; rw [Bool.and_eq_true] at hb; exact hb.2
  exact mnL_inj ha hb (fun f hf => flB_I (newB_all na f hf) (sa f hf)) (fun f hf => flB_I (newB_all nb f hf) (sb f hf)) h2
def mnIs (s : ByteArray) (m : Mn) : Prop := mnB m = true ∧ sumsB m.files ∧ mnS m = s
theorem mnIs_one {s : ByteArray} {a b : Mn} (ha : mnIs s a) (hb : mnIs s b) : a = b := mnS_inj ha.1 hb.1 ha.2.1 hb.2.1 (ha.2.2.trans hb.2.2.symm)
theorem mnIs_shut {s : ByteArray} (h : opB s = false) (m : Mn) : ¬ mnIs s m := fun k => by
  have := mnS_open m
  rw [k.2.2, h] at this
  cases this
def findF (n : ByteArray) : List Fl → Option Fl
  | [] => none
  | f :: t => if f.name = n then some f else findF n t
theorem find_ahead {n : ByteArray} : ∀ {l m : List Fl}, (∀ f ∈ l, f.name ≠ n) → findF n (l ++ m) = findF n m
  | [], _, _ => rfl
  | f :: t, m, h => by
    show (if f.name = n then some f else findF n (t ++ m)) = findF n m
    rw [if_neg (h f (by simp))]
    exact find_ahead (l := t) fun x hx => h x (by simp [hx])
theorem flL_length (f : Fl) : (flL f).length = 14 + f.name.size := by
  unfold flL
  simp only [List.length_append, beL_length]
  have : f.name.data.toList.length = f.name.size := rfl
  omega
theorem mnL_length (m : Mn) : (mnL m).length = 9 + (m.files.map fun f => 14 + f.name.size).sum := by
  unfold mnL
  simp only [List.length_append, beL_length, List.length_flatten, List.map_map, List.length_cons, List.length_nil]
  have e : (m.files.map (List.length ∘ flL)) = m.files.map fun f => 14 + f.name.size := List.map_congr_left fun f _ => flL_length f
  rw [e]; omega
theorem mnS_size (m : Mn) : (mnS m).size = 13 + (m.files.map fun f => 14 + f.name.size).sum := by
  unfold mnS
  rw [cl_size, bs_size, mnL_length]; omega
end MnPlain
end Go.Proofs.YtignfbdgpgidpaaGreatDoor
/- Plain facts on the number of some bytes of a text. -/
namespace Go.Proofs.YtignfbdgpgidpaaGreatDoor
namespace OctPlain
theorem cutL_take (s : ByteArray) (a k j : Nat) (h : a + k ≤ s.size) (hj : j < k) : (cutL s a k).take (j + 1) = (cutL s a k).take j ++ [s[a + j]'(by omega)] := by
  have hl := cutL_length s a k h
  rw [List.take_succ_eq_append_getElem (by omega)]
  congr 2
  simp only [cutL, List.getElem_take, List.getElem_drop, Array.getElem_toList]
  rfl
theorem getB_no {s : ByteArray} {a k : Int} (h : ¬ ((1 ≤ k ∧ k ≤ 8) ∧ 0 ≤ a ∧ a + k ≤ s.size)) : getB s a k = false := by
  unfold getB
  rw [decide_eq_false_iff_not]
  intro hh; exact h ⟨hh.1, hh.2.1, hh.2.2.1⟩
theorem getN_no {s : ByteArray} {a k : Int} (h : getB s a k = false) : getN s a k = 0 := by
  unfold getN; rw [h]; rfl
theorem getB_yes {s : ByteArray} {p k : Nat} (hk : 1 ≤ k ∧ k ≤ 8) (hp : p + k ≤ s.size) (h : num (cutL s p k) < 9223372036854775808) : getB s p k = true := by
  unfold getB
  rw [decide_eq_true_iff, Int.toNat_natCast, Int.toNat_natCast]
  omega
theorem getN_yes {s : ByteArray} {p k : Nat} (h : getB s p k = true) : getN s p k = num (cutL s p k) := by
  unfold getN; rw [if_pos h, Int.toNat_natCast, Int.toNat_natCast]
end OctPlain
end Go.Proofs.YtignfbdgpgidpaaGreatDoor
/- Plain facts of a manifest's bytes: where each field lies; steps of the loops that walk files. -/
namespace Go.Proofs.YtignfbdgpgidpaaGreatDoor
open Go.RowKit FsPlain CrcPlain OctPlain
set_option linter.unusedVariables false
set_option linter.unusedSimpArgs false
namespace MnPlain
theorem cut_app {s : ByteArray} {p x q : List UInt8} {a k : Nat} (h : s.data.toList = p ++ (x ++ q)) (ha : a = p.length) (hk : k = x.length) : cutL s a k = x := by
  subst ha hk
  unfold cutL
  rw [h, List.drop_left, List.take_left]
theorem get_app {s : ByteArray} {p q : List UInt8} {k n a : Nat} (hk : 1 ≤ k ∧ k ≤ 8) (hn : n < 256 ^ k) (hn2 : n < 9223372036854775808) (h : s.data.toList = p ++ (beL k n ++ q)) (ha : a = p.length) : getB s (a : Int) (k : Int) = true ∧ getN s (a : Int) (k : Int) = (n : Int) := by
  have hc := cut_app (k := k) h ha (by rw [beL_length])
  have hs : s.size = p.length + (k + q.length) := by
    have e : s.data.toList.length = s.size := rfl
    rw [← e, h, List.length_append, List.length_append, beL_length]
  have hb : getB s (a : Int) (k : Int) = true := getB_yes hk (by omega) (by rw [hc, num_beL k n hn]; exact hn2)
  exact ⟨hb, by rw [getN_yes hb, hc, num_beL k n hn]⟩
def posN (l : List Fl) : Nat := 9 + (l.map fun f => 14 + f.name.size).sum
theorem posN_snoc (l : List Fl) (f : Fl) : posN (l ++ [f]) = posN l + 14 + f.name.size := by
  unfold posN
  rw [List.map_append, List.sum_append]
  simp; omega
theorem flat_length (l : List Fl) : ((l.map flL).flatten).length = (l.map fun f => 14 + f.name.size).sum := by
  rw [List.length_flatten, List.map_map]
  congr 1
  exact List.map_congr_left fun f _ => flL_length f
end MnPlain
end Go.Proofs.YtignfbdgpgidpaaGreatDoor
/- Plain facts of a manifest: the loops that walk its files, step by step. -/
namespace Go.Proofs.YtignfbdgpgidpaaGreatDoor
open Go.RowKit FsPlain CrcPlain OctPlain
set_option linter.unusedVariables false
set_option linter.unusedSimpArgs false
namespace MnPlain
theorem find_at {n : ByteArray} {l : List Fl} {i : Nat} (hi : i < l.length) (h : ∀ j (hj : j < i), l[j].name ≠ n) : findF n l = if l[i].name = n then some l[i] else findF n (l.drop (i + 1)) := by
  have e : l = l.take i ++ (l[i] :: l.drop (i + 1)) := by rw [← List.drop_eq_getElem_cons hi, List.take_append_drop]
  have k : ∀ f ∈ l.take i, f.name ≠ n := fun f hf => by
    obtain ⟨j, hj, rfl⟩ := List.mem_iff_getElem.1 hf
    rw [List.getElem_take]
    rw [List.length_take] at hj
    exact h j (by omega)
  have e2 : findF n l = findF n (l.take i ++ (l[i] :: l.drop (i + 1))) := congrArg _ e
  rw [e2, find_ahead k]
  rfl
theorem find_no {n : ByteArray} {l : List Fl} (h : ∀ j (hj : j < l.length), l[j].name ≠ n) : findF n l = none := by
  have := find_ahead (n := n) (l := l) (m := []) fun f hf => by
    obtain ⟨j, hj, rfl⟩ := List.mem_iff_getElem.1 hf
    exact h j hj
  rw [List.append_nil] at this
  exact this
theorem new_step {l : List Fl} {i : Nat} (hi : i < l.length) : newB (l.take i) (l.drop i) = (flB l[i] && ((l.take i).all fun g => decide (g.name ≠ l[i].name)) && newB (l.take (i + 1)) (l.drop (i + 1))) := by
  rw [List.drop_eq_getElem_cons hi]
  show (flB l[i] && ((l.take i).all fun g => decide (g.name ≠ l[i].name)) && newB (l.take i ++ [l[i]]) (l.drop (i + 1))) = _
  rw [List.take_succ_eq_append_getElem hi]
theorem new_end (l : List Fl) : newB (l.take l.length) (l.drop l.length) = true := by rw [List.drop_length]; unfold newB; rfl
theorem all_ne {l : List Fl} {i : Nat} (hi : i < l.length) (n : ByteArray) : ((l.take i).all fun g => decide (g.name ≠ n)) = true ↔ ∀ j (hj : j < i), l[j].name ≠ n := by
  rw [List.all_eq_true]
  constructor
  · intro h j hj
    have := h l[j] (by rw [List.mem_iff_getElem]; exact ⟨j, by rw [List.length_take]; omega, by rw [List.getElem_take]⟩)
    simpa using this
  · intro h f hf
    obtain ⟨j, hj, rfl⟩ := List.mem_iff_getElem.1 hf
    rw [List.length_take] at hj
    have := h j (by omega)
    simpa [List.getElem_take] using this
theorem bytes_step {l : List Fl} {i : Nat} (hi : i < l.length) : ((l.take (i + 1)).map flL).flatten = ((l.take i).map flL).flatten ++ flL l[i] := by
  rw [List.take_succ_eq_append_getElem hi, List.map_append, List.flatten_append]
  simp
theorem pos_step {l : List Fl} {i : Nat} (hi : i < l.length) : posN (l.take (i + 1)) = posN (l.take i) + 14 + l[i].name.size := by
  rw [List.take_succ_eq_append_getElem hi, posN_snoc]
end MnPlain
end Go.Proofs.YtignfbdgpgidpaaGreatDoor
/- An argument that is a slice of a manifest's files. -/
namespace Go.Proofs.YtignfbdgpgidpaaGreatDoor
open Go.RowKit Go.ChangeShapes Go.WideShapes Go.Deep MnPlain
set_option linter.unusedVariables false
set_option linter.unusedSimpArgs false
set_option maxRecDepth 20000
def FlAt (w : World) (b o : Nat) (x : Fl) : Prop := w.cell? ⟨b, o, none⟩ = some (.string x.name) ∧ w.cell? ⟨b, o + 1, none⟩ = some (.int .i64 x.size) ∧ w.cell? ⟨b, o + 2, none⟩ = some (.int .i64 x.count) ∧ w.cell? ⟨b, o + 3, none⟩ = some (.int .u32 x.sum)
def FlRow (w : World) (b o : Nat) (l : List Fl) : Prop := b < w.heap.size ∧ ∀ (j : Nat) (x : Fl), l[j]? = some x → FlAt w b (o + j * 4) x
def LiesFl (w : World) (v : Value) (l : List Fl) : Prop := ∃ a c, v = .slice a l.length c ∧ l.length ≤ c ∧ (l = [] ∨ ∃ b o, a = some ⟨b, o, none⟩ ∧ FlRow w b o l)
def flK (x : Fl) : Prop := x.name.size ≤ maxLen ∧ I64 x.size ∧ I64 x.count ∧ 0 ≤ x.sum ∧ x.sum < 4294967296
theorem add_lit19 (b o i : Nat) : (⟨b, o, none⟩ : Addr).add i = ⟨b, o + i, none⟩ := by by_cases h : i = 0 <;> simp [Addr.add, h]
theorem FlRow.only {w w' : World} {b o : Nat} {l : List Fl} {C : Nat → Prop} (h : FlRow w b o l) (q : Only C w w') (hC : ∀ b, b < w.heap.size → ¬ C b) : FlRow w' b o l :=
  ⟨Nat.lt_of_lt_of_le h.1 q.size, fun j x hj => ⟨by rw [q.cell (p := ⟨b, o + j * 4, none⟩) h.1 (hC b h.1)]; exact (h.2 j x hj).1, by rw [q.cell (p := ⟨b, o + j * 4 + 1, none⟩) h.1 (hC b h.1)]; exact (h.2 j x hj).2.1, by rw [q.cell (p := ⟨b, o + j * 4 + 2, none⟩) h.1 (hC b h.1)]; exact (h.2 j x hj).2.2.1, by rw [q.cell (p := ⟨b, o + j * 4 + 3, none⟩) h.1 (hC b h.1)]; exact (h.2 j x hj).2.2.2⟩⟩
theorem FlRow.gr {w w' : World} {b o : Nat} {l : List Fl} (h : FlRow w b o l) (g : Gr w w') : FlRow w' b o l := h.only (Only.ofGr (B := fun _ => False) g) fun _ _ k => k
theorem LiesFl.gr {w w' : World} {v : Value} {l : List Fl} (h : LiesFl w v l) (g : Gr w w') : LiesFl w' v l := by
  obtain ⟨a, c, e, hc, h⟩ := h
  exact ⟨a, c, e, hc, h.imp id fun ⟨b, o, e2, k⟩ => ⟨b, o, e2, k.gr g⟩⟩
end Go.Proofs.YtignfbdgpgidpaaGreatDoor
/- The document's answers of layer 19: Few, Find. -/
namespace Go.Proofs.YtignfbdgpgidpaaGreatDoor
open Go.RowKit FsPlain MnPlain
set_option linter.unusedVariables false
set_option linter.unusedSimpArgs false
set_option maxRecDepth 20000
namespace MnPlain
def fewB (l : List Fl) : Bool := (l.take 20).all (fun f => decide (f.name.size ≤ 40)) && decide (l.length ≤ 20)
end MnPlain
theorem fl_get {w : World} {a : Option Addr} {n c : Nat} {l : List Fl} (h : LiesFl w (.slice a n c) l) {i : Nat} (hi : i < l.length) : n = l.length ∧ n ≤ c ∧ ∃ b o, a = some ⟨b, o, none⟩ ∧ b < w.heap.size ∧ FlAt w b (o + i * 4) l[i] := by
  obtain ⟨a', c', e, hc, h⟩ := h
  simp only [Value.slice.injEq] at e
  obtain ⟨rfl, rfl, rfl⟩ := e
  rcases h with rfl | ⟨b, o, rfl, h1, h2⟩
  · simp at hi
  · exact ⟨rfl, hc, b, o, rfl, h1, h2 i _ (List.getElem?_eq_getElem hi)⟩
set_option maxHeartbeats 2000000 in
theorem rfew_c (st ps : Int) (a : Option Addr) (n c : Nat) (l : List Fl) (w : World) (h : LiesFl w (.slice a n c) l) (hl : l.length ≤ maxLen) :
    Calls Tryz.prog 39 #[.agg #[.int .i64 st, .int .i64 ps, .slice a n c]] w fun e w' => e = .returned (.bool (fewB l)) ∧ Gr w w' := by
  have hn : n = l.length := by
    obtain ⟨a', c', e, hc, _⟩ := h
    simp only [Value.slice.injEq] at e
    exact e.2.1
  obtain ⟨r, hr⟩ : ∃ r, fewB l = r := ⟨_, rfl⟩
  rw [hr]
  unfold maxLen at hl
  have H := Lib.hid h
  have HR := Lib.hid hr
  clear h hr
  subst hn
  go_enter Tryz.func39, Tryz.ntmps39
  go_wp2_with fail
  go_loopw [3] (fun v wr => ∃ i : Nat, i ≤ l.length ∧ i ≤ 20 ∧ v = .int .i64 (i : Int) ∧ (∀ j (hj : j < l.length), j < i → l[j].name.size ≤ 40) ∧ wr = w.alloc (.cells #[.int .i64 st, .int .i64 ps, .slice a l.length c] 27)) (fun v _ => l.length - (intOf v).toNat)
  case atStart => exact ⟨0, Nat.zero_le _, by decide, rfl, fun j _ hj => by omega, rfl⟩
  case round =>
    obtain ⟨i, hi1, hi2, rfl, hall, rfl⟩ := hrel
    have HA := Lib.hid hall
    clear hall
    by_cases hlt : i < l.length ∧ i < 20
    · obtain ⟨_, hc, b, o, rfl, hb, ⟨k0, _, _, _⟩⟩ := fl_get H.out hlt.1
      have q1 : (i : Int) < (l.length : Int) := by omega
      have q2 : (i : Int) < 20 := by omega
      by_cases hs : l[i].name.size ≤ 40
      · have q3 : ¬ (40 : Int) < (l[i].name.size : Int) := by omega
        have NX := Lib.hid (show ∀ j (hj : j < l.length), j < i + 1 → l[j].name.size ≤ 40 from fun j hj hji => by
          by_cases e : j = i
          · subst e; exact hs
          · exact HA.out j hj (by omega))
        have hb2 : b < w.heap.size := hb
        clear hs
        go_wp2_with fail
        go_roundw
        case rel => exact ⟨i + 1, by omega, by omega, by rw [show ((i + 1 : Nat) : Int) = (i : Int) + 1 by omega], NX.out, by first | rfl | trivial⟩
        case measure => simp [intOf]; omega
      · have q3 : (40 : Int) < (l[i].name.size : Int) := by omega
        have er : r = false := by
          rw [← HR.out]
          unfold fewB
          rw [Bool.and_eq_false_iff, List.all_eq_false]
          left
          exact ⟨l[i], by rw [List.mem_iff_getElem]; exact ⟨i, by rw [List.length_take]; omega, by rw [List.getElem_take]⟩, by simpa using hs⟩
        subst er
        clear hs
        go_wp2_with fail
        go_ret
        exact ⟨rfl, (Gr.refl _).alloc (Nat.le_refl _) _⟩
    · have er : r = decide ((l.length : Int) ≤ 20) := by
        rw [← HR.out]
        unfold fewB
        have e1 : (l.take 20).all (fun f => decide (f.name.size ≤ 40)) = true := by
          rw [List.all_eq_true]
          intro f hf
          obtain ⟨j, hj, rfl⟩ := List.mem_iff_getElem.1 hf
          rw [List.length_take] at hj
          rw [List.getElem_take]
          exact decide_eq_true (HA.out j (by omega) (by omega))
        rw [e1, Bool.true_and]
        exact decide_eq_decide.2 (by omega)
      subst er
      by_cases q1 : (i : Int) < (l.length : Int)
      · have q2 : ¬ (i : Int) < 20 := by omega
        clear hlt
        go_wp2_with fail
        go_ret
        exact ⟨rfl, (Gr.refl _).alloc (Nat.le_refl _) _⟩
      · clear hlt
        go_wp2_with fail
        go_ret
        exact ⟨rfl, (Gr.refl _).alloc (Nat.le_refl _) _⟩
end Go.Proofs.YtignfbdgpgidpaaGreatDoor
/- The document's answers of layer 19: Find. -/
namespace Go.Proofs.YtignfbdgpgidpaaGreatDoor
open Go.RowKit FsPlain MnPlain
set_option linter.unusedVariables false
set_option linter.unusedSimpArgs false
set_option maxRecDepth 20000
def flV (f : Fl) : Value := .agg #[.string f.name, .int .i64 f.size, .int .i64 f.count, .int .u32 f.sum]
end Go.Proofs.YtignfbdgpgidpaaGreatDoor
