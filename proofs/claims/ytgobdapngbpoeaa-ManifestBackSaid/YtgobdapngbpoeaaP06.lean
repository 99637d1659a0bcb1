/- In one text: MnFact, OctPlain2, MnCut. -/
import Derived.Test.YtgobdapngbpoeaaP02
import Derived.Test.YtgobdapngbpoeaaP05
import Derived.Test.YtgobdapngbpoeaaP01
/- Plain facts of a manifest: a manifest comes back, a turned one does not; a file that was put is found. -/
namespace Go.Proofs.Ytgobdapngbpoeaa
open Go.RowKit FsPlain CrcPlain OctPlain
set_option linter.unusedVariables false
set_option linter.unusedSimpArgs false
namespace MnPlain
/-- The sums are of four bytes (as uint32 is). -/
def sumsB (l : List Fl) : Prop := ∀ f ∈ l, 0 ≤ f.sum ∧ f.sum < 4294967296
theorem flB_I {f : Fl} (h : flB f = true) (hs : 0 ≤ f.sum ∧ f.sum < 4294967296) : flI f := by
  unfold flB rightB at h
  simp only [Bool.and_eq_true, decide_eq_true_eq] at h
  obtain ⟨⟨_, _, h1⟩, ⟨h2, h3⟩, h4, h5⟩ := h
  have : f.name.data.toList.length = f.name.size := rfl
  exact ⟨by omega, ⟨by omega, by omega⟩, ⟨h4, by omega⟩, hs⟩
theorem newB_all : ∀ {l : List Fl} {a : List Fl}, newB a l = true → ∀ f ∈ l, flB f = true
  | [], _, _, f, hf => by simp at hf
  | g :: l, a, h, f, hf => by
    unfold newB at h
    simp only [Bool.and_eq_true] at h
    rcases List.mem_cons.1 hf with rfl | hf
    · exact h.1.1
    · exact newB_all h.2 f hf
/-- The bytes of a manifest. -/
def mnS (m : Mn) : ByteArray := cl (bs (mnL m))
theorem mnS_open (m : Mn) : opB (mnS m) = true := (op_cl _).1
theorem mnS_inj {a b : Mn} (ha : mnB a = true) (hb : mnB b = true) (sa : sumsB a.files) (sb : sumsB b.files) (h : mnS a = mnS b) : a = b := by
  have h1 : bs (mnL a) = bs (mnL b) := by
    have e1 := (op_cl (bs (mnL a))).2
    have e2 := (op_cl (bs (mnL b))).2
    unfold mnS at h
    rw [← e1, h, e2]
  have h2 : mnL a = mnL b := by
    have e := congrArg (fun s : ByteArray => s.data.toList) h1
    have k : ∀ l : List UInt8, (bs l).data.toList = l := fun l => by simp [bs]
    have e2 : (bs (mnL a)).data.toList = (bs (mnL b)).data.toList := e
    rw [k, k] at e2
    exact e2
  have na : newB [] a.files = true := by unfold mnB at ha; rw [Bool.and_eq_true] at ha; exact ha.2
  have nb : newB [] b.files = true := by unfold mnB at hb; rw [Bool.and_eq_true] at hb; exact hb.2
  exact mnL_inj ha hb (fun f hf => flB_I (newB_all na f hf) (sa f hf)) (fun f hf => flB_I (newB_all nb f hf) (sb f hf)) h2
/-- What Get tells of s: of one manifest at most. -/
def mnIs (s : ByteArray) (m : Mn) : Prop := mnB m = true ∧ sumsB m.files ∧ mnS m = s
theorem mnIs_one {s : ByteArray} {a b : Mn} (ha : mnIs s a) (hb : mnIs s b) : a = b := mnS_inj ha.1 hb.1 ha.2.1 hb.2.1 (ha.2.2.trans hb.2.2.symm)
theorem mnIs_shut {s : ByteArray} (h : opB s = false) (m : Mn) : ¬ mnIs s m := fun k => by
  have := mnS_open m
  rw [k.2.2, h] at this
  cases this
/-- Of turned bytes there is none. -/
theorem mn_turned {m : Mn} {l : List UInt8} {first v : Nat} (h : Turn (mnS m).data.toList l first v) (hf : first < 8 * (mnS m).size) (hv : v < 4294967296) (h0 : v ≠ 0) (o : Mn) : ¬ mnIs (bs l) o := mnIs_shut (op_turned h hf hv h0) o
def findF (n : ByteArray) : List Fl → Option Fl
  | [] => none
  | f :: t => if f.name = n then some f else findF n t
def withF (g : Fl) : List Fl → List Fl
  | [] => [g]
  | f :: t => if f.name = g.name then g :: t else f :: withF g t
theorem find_with (g : Fl) : ∀ l : List Fl, findF g.name (withF g l) = some g
  | [] => by unfold withF findF; rw [if_pos rfl]
  | f :: t => by
    unfold withF
    by_cases h : f.name = g.name
    · rw [if_pos h]; unfold findF; rw [if_pos rfl]
    · rw [if_neg h]; unfold findF; rw [if_neg h]; exact find_with g t
theorem find_ahead {n : ByteArray} : ∀ {l m : List Fl}, (∀ f ∈ l, f.name ≠ n) → findF n (l ++ m) = findF n m
  | [], _, _ => rfl
  | f :: t, m, h => by
    show (if f.name = n then some f else findF n (t ++ m)) = findF n m
    rw [if_neg (h f (by simp))]
    exact find_ahead (l := t) fun x hx => h x (by simp [hx])
theorem with_ahead {g : Fl} : ∀ {l m : List Fl}, (∀ f ∈ l, f.name ≠ g.name) → withF g (l ++ m) = l ++ withF g m
  | [], _, _ => rfl
  | f :: t, m, h => by
    have ih := with_ahead (g := g) (l := t) (m := m) fun x hx => h x (by simp [hx])
    show (if f.name = g.name then g :: (t ++ m) else f :: withF g (t ++ m)) = f :: (t ++ withF g m)
    rw [if_neg (h f (by simp)), ih]
/-- How long the bytes are. -/
theorem flL_length (f : Fl) : (flL f).length = 14 + f.name.size := by
  unfold flL
  simp only [List.length_append, beL_length]
  have : f.name.data.toList.length = f.name.size := rfl
  omega
theorem mnL_length (m : Mn) : (mnL m).length = 9 + (m.files.map fun f => 14 + f.name.size).sum := by
  unfold mnL
  simp only [List.length_append, beL_length, List.length_flatten, List.map_map, List.length_cons, List.length_nil]
  have e : (m.files.map (List.length ∘ flL)) = m.files.map fun f => 14 + f.name.size := List.map_congr_left fun f _ => flL_length f
  rw [e]; omega
theorem mnS_size (m : Mn) : (mnS m).size = 13 + (m.files.map fun f => 14 + f.name.size).sum := by
  unfold mnS
  rw [cl_size, bs_size, mnL_length]; omega
end MnPlain
end Go.Proofs.Ytgobdapngbpoeaa
/- Plain facts on the number of some bytes of a text. -/
namespace Go.Proofs.Ytgobdapngbpoeaa
namespace OctPlain
theorem cutL_take (s : ByteArray) (a k j : Nat) (h : a + k ≤ s.size) (hj : j < k) : (cutL s a k).take (j + 1) = (cutL s a k).take j ++ [s[a + j]'(by omega)] := by
  have hl := cutL_length s a k h
  rw [List.take_succ_eq_append_getElem (by omega)]
  congr 2
  simp only [cutL, List.getElem_take, List.getElem_drop, Array.getElem_toList]
  rfl

theorem num_take_le (l : List UInt8) (j : Nat) (h : j < l.length) : num (l.take j) * 256 ≤ num l := by
  have h1 := num_app (l.take j) (l.drop j)
  rw [List.take_append_drop, List.length_drop] at h1
  have h2 : 256 ^ 1 ≤ 256 ^ (l.length - j) := Nat.pow_le_pow_right (by omega) (by omega)
  have h3 := Nat.mul_le_mul_left (num (l.take j)) h2
  omega

theorem getB_no {s : ByteArray} {a k : Int} (h : ¬ ((1 ≤ k ∧ k ≤ 8) ∧ 0 ≤ a ∧ a + k ≤ s.size)) : getB s a k = false := by
  unfold getB
  rw [decide_eq_false_iff_not]
  intro hh; exact h ⟨hh.1, hh.2.1, hh.2.2.1⟩
theorem getN_no {s : ByteArray} {a k : Int} (h : getB s a k = false) : getN s a k = 0 := by
  unfold getN; rw [h]; rfl
theorem getB_big {s : ByteArray} {p k : Nat} (h : 9223372036854775808 ≤ num (cutL s p k)) : getB s p k = false := by
  unfold getB
  rw [decide_eq_false_iff_not, Int.toNat_natCast, Int.toNat_natCast]
  omega
theorem getB_yes {s : ByteArray} {p k : Nat} (hk : 1 ≤ k ∧ k ≤ 8) (hp : p + k ≤ s.size) (h : num (cutL s p k) < 9223372036854775808) : getB s p k = true := by
  unfold getB
  rw [decide_eq_true_iff, Int.toNat_natCast, Int.toNat_natCast]
  omega
theorem getN_yes {s : ByteArray} {p k : Nat} (h : getB s p k = true) : getN s p k = num (cutL s p k) := by
  unfold getN; rw [if_pos h, Int.toNat_natCast, Int.toNat_natCast]

end OctPlain
end Go.Proofs.Ytgobdapngbpoeaa
/- Plain facts of a manifest's bytes: where each field lies; steps of the loops that walk files. -/
namespace Go.Proofs.Ytgobdapngbpoeaa
open Go.RowKit FsPlain CrcPlain OctPlain
set_option linter.unusedVariables false
set_option linter.unusedSimpArgs false
namespace MnPlain
theorem cut_app {s : ByteArray} {p x q : List UInt8} {a k : Nat} (h : s.data.toList = p ++ (x ++ q)) (ha : a = p.length) (hk : k = x.length) : cutL s a k = x := by
  subst ha hk
  unfold cutL
  rw [h, List.drop_left, List.take_left]
theorem get_app {s : ByteArray} {p q : List UInt8} {k n a : Nat} (hk : 1 ≤ k ∧ k ≤ 8) (hn : n < 256 ^ k) (hn2 : n < 9223372036854775808) (h : s.data.toList = p ++ (beL k n ++ q)) (ha : a = p.length) : getB s (a : Int) (k : Int) = true ∧ getN s (a : Int) (k : Int) = (n : Int) := by
  have hc := cut_app (k := k) h ha (by rw [beL_length])
  have hs : s.size = p.length + (k + q.length) := by
    have e : s.data.toList.length = s.size := rfl
    rw [← e, h, List.length_append, List.length_append, beL_length]
  have hb : getB s (a : Int) (k : Int) = true := getB_yes hk (by omega) (by rw [hc, num_beL k n hn]; exact hn2)
  exact ⟨hb, by rw [getN_yes hb, hc, num_beL k n hn]⟩
/-- Where the file behind these begins. -/
def posN (l : List Fl) : Nat := 9 + (l.map fun f => 14 + f.name.size).sum
theorem posN_snoc (l : List Fl) (f : Fl) : posN (l ++ [f]) = posN l + 14 + f.name.size := by
  unfold posN
  rw [List.map_append, List.sum_append]
  simp; omega
theorem flat_length (l : List Fl) : ((l.map flL).flatten).length = (l.map fun f => 14 + f.name.size).sum := by
  rw [List.length_flatten, List.map_map]
  congr 1
  exact List.map_congr_left fun f _ => flL_length f
theorem mnS_data (m : Mn) : (mnS m).data.toList = mnL m ++ tl (more 0 (mnL m)) := by
  have k : ∀ l : List UInt8, (bs l).data.toList = l := fun l => by simp [bs]
  unfold mnS cl
  rw [ByteArray.data_append, Array.toList_append, k, k]
/-- The head of the bytes. -/
theorem mn_head {m : Mn} (h : mnB m = true) : getN (mnS m) 4 2 = m.stage ∧ getN (mnS m) 6 2 = m.pass ∧ cutL (mnS m) 8 1 = beL 1 m.files.length ∧ m.files.length ≤ 16 := by
  unfold mnB at h
  simp only [Bool.and_eq_true, decide_eq_true_eq] at h
  obtain ⟨⟨⟨a1, a2⟩, ⟨a3, a4⟩, a5⟩, _⟩ := h
  have hd := mnS_data m
  unfold mnL at hd
  have e1 : (mnS m).data.toList = [77, 65, 78, 49] ++ (beL 2 m.stage.toNat ++ (beL 2 m.pass.toNat ++ (beL 1 m.files.length ++ ((m.files.map flL).flatten ++ tl (more 0 (mnL m)))))) := by
    rw [hd]; simp only [List.append_assoc]; rfl
  have e2 : (mnS m).data.toList = ([77, 65, 78, 49] ++ beL 2 m.stage.toNat) ++ (beL 2 m.pass.toNat ++ (beL 1 m.files.length ++ ((m.files.map flL).flatten ++ tl (more 0 (mnL m))))) := by
    rw [e1, List.append_assoc]
  have e3 : (mnS m).data.toList = (([77, 65, 78, 49] ++ beL 2 m.stage.toNat) ++ beL 2 m.pass.toNat) ++ (beL 1 m.files.length ++ ((m.files.map flL).flatten ++ tl (more 0 (mnL m)))) := by
    rw [e2]; simp only [List.append_assoc]
  have g1 := (get_app (a := 4) (k := 2) (n := m.stage.toNat) (by decide) (by omega) (by omega) e1 rfl).2
  have g2 := (get_app (a := 6) (k := 2) (n := m.pass.toNat) (by decide) (by omega) (by omega) e2 (by simp [beL_length])).2
  refine ⟨?_, ?_, cut_app e3 (by simp [beL_length]) (by rw [beL_length]), a5⟩
  · have : getN (mnS m) 4 2 = (m.stage.toNat : Int) := g1
    rw [this]; omega
  · have : getN (mnS m) 6 2 = (m.pass.toNat : Int) := g2
    rw [this]; omega
/-- A file's bytes among them. -/
theorem mn_at {m : Mn} {l t : List Fl} {f : Fl} (h : m.files = l ++ f :: t) : ∃ p q, (mnS m).data.toList = p ++ (flL f ++ q) ∧ p.length = posN l ∧ 4 ≤ q.length := by
  refine ⟨[77, 65, 78, 49] ++ (beL 2 m.stage.toNat ++ (beL 2 m.pass.toNat ++ (beL 1 m.files.length ++ (l.map flL).flatten))), (t.map flL).flatten ++ tl (more 0 (mnL m)), ?_, ?_, ?_⟩
  · rw [mnS_data]
    unfold mnL
    rw [h, List.map_append, List.flatten_append, List.map_cons, List.flatten_cons]
    simp only [List.append_assoc]
  · unfold posN
    rw [← flat_length]
    simp only [List.length_append, beL_length, List.length_cons, List.length_nil]
    omega
  · rw [List.length_append, tl_length]; omega
/-- Where its fields lie. -/
theorem fl_at {s : ByteArray} {p q : List UInt8} {f : Fl} {a : Nat} (hf : flI f) (hc : f.count < 9223372036854775808) (h : s.data.toList = p ++ (flL f ++ q)) (ha : a = p.length) :
    (getB s (a : Int) 1 = true ∧ getN s (a : Int) 1 = (f.name.size : Nat)) ∧ cutL s (a + 1) f.name.size = f.name.data.toList ∧ getN s ((a + 1 + f.name.size : Nat) : Int) 1 = f.size ∧ (getB s ((a + 1 + f.name.size + 1 : Nat) : Int) 8 = true ∧ getN s ((a + 1 + f.name.size + 1 : Nat) : Int) 8 = f.count) ∧ getN s ((a + 1 + f.name.size + 9 : Nat) : Int) 4 = f.sum ∧ s.size = a + 14 + f.name.size + q.length := by
  obtain ⟨f1, ⟨f2, f3⟩, ⟨f4, f5⟩, f6, f7⟩ := hf
  have hn : f.name.data.toList.length = f.name.size := rfl
  unfold flL at h
  have e1 : s.data.toList = p ++ (beL 1 f.name.size ++ (f.name.data.toList ++ (beL 1 f.size.toNat ++ (beL 8 f.count.toNat ++ (beL 4 f.sum.toNat ++ q))))) := by rw [h]; simp only [List.append_assoc]
  have e2 : s.data.toList = (p ++ beL 1 f.name.size) ++ (f.name.data.toList ++ (beL 1 f.size.toNat ++ (beL 8 f.count.toNat ++ (beL 4 f.sum.toNat ++ q)))) := by rw [e1]; simp only [List.append_assoc]
  have e3 : s.data.toList = ((p ++ beL 1 f.name.size) ++ f.name.data.toList) ++ (beL 1 f.size.toNat ++ (beL 8 f.count.toNat ++ (beL 4 f.sum.toNat ++ q))) := by rw [e1]; simp only [List.append_assoc]
  have e4 : s.data.toList = (((p ++ beL 1 f.name.size) ++ f.name.data.toList) ++ beL 1 f.size.toNat) ++ (beL 8 f.count.toNat ++ (beL 4 f.sum.toNat ++ q)) := by rw [e1]; simp only [List.append_assoc]
  have e5 : s.data.toList = ((((p ++ beL 1 f.name.size) ++ f.name.data.toList) ++ beL 1 f.size.toNat) ++ beL 8 f.count.toNat) ++ (beL 4 f.sum.toNat ++ q) := by rw [e1]; simp only [List.append_assoc]
  have l2 : (p ++ beL 1 f.name.size).length = a + 1 := by rw [List.length_append, beL_length, ha]
  have l3 : ((p ++ beL 1 f.name.size) ++ f.name.data.toList).length = a + 1 + f.name.size := by rw [List.length_append, l2, hn]
  have l4 : (((p ++ beL 1 f.name.size) ++ f.name.data.toList) ++ beL 1 f.size.toNat).length = a + 1 + f.name.size + 1 := by rw [List.length_append, l3, beL_length]
  have l5 : ((((p ++ beL 1 f.name.size) ++ f.name.data.toList) ++ beL 1 f.size.toNat) ++ beL 8 f.count.toNat).length = a + 1 + f.name.size + 9 := by rw [List.length_append, l4, beL_length]
  have g1 := get_app (a := a) (k := 1) (n := f.name.size) (by decide) (by rw [Nat.pow_one]; exact f1) (by omega) e1 ha
  have g3 := get_app (a := a + 1 + f.name.size) (k := 1) (n := f.size.toNat) (by decide) (by omega) (by omega) e3 l3.symm
  have g4 := get_app (a := a + 1 + f.name.size + 1) (k := 8) (n := f.count.toNat) (by decide) (by omega) (by omega) e4 l4.symm
  have g5 := get_app (a := a + 1 + f.name.size + 9) (k := 4) (n := f.sum.toNat) (by decide) (by omega) (by omega) e5 l5.symm
  refine ⟨g1, cut_app e2 l2.symm hn.symm, ?_, ⟨g4.1, ?_⟩, ?_, ?_⟩
  · have := g3.2
    rw [Int.toNat_of_nonneg f2] at this; exact this
  · have := g4.2
    rw [Int.toNat_of_nonneg f4] at this; exact this
  · have := g5.2
    rw [Int.toNat_of_nonneg f6] at this; exact this
  · have e : s.data.toList.length = s.size := rfl
    rw [← e, e5, List.length_append, l5, List.length_append, beL_length]; omega
end MnPlain
end Go.Proofs.Ytgobdapngbpoeaa
