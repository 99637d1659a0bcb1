/- In one text: MnFact. -/
import Derived.Test.YtgopodgjnblgkaaDoorP06
import Derived.Test.YtgopodgjnblgkaaDoorP17
/- Plain facts of a manifest: a manifest comes back, a turned one does not; a file that was put is found. -/
namespace Go.Proofs.YtgopodgjnblgkaaDoor
open Go.RowKit FsPlain CrcPlain OctPlain
set_option linter.unusedVariables false
set_option linter.unusedSimpArgs false
namespace MnPlain
/-- The sums are of four bytes (as uint32 is). -/
def sumsB (l : List Fl) : Prop := ∀ f ∈ l, 0 ≤ f.sum ∧ f.sum < 4294967296
theorem flB_I {f : Fl} (h : flB f = true) (hs : 0 ≤ f.sum ∧ f.sum < 4294967296) : flI f := by
  unfold flB rightB at h
  simp only [Bool.and_eq_true, decide_eq_true_eq] at h
  obtain ⟨⟨_, _, h1⟩, ⟨h2, h3⟩, h4, h5⟩ := h
  have : f.name.data.toList.length = f.name.size := rfl
  exact ⟨by omega, ⟨by omega, by omega⟩, ⟨h4, by omega⟩, hs⟩
theorem newB_all : ∀ {l : List Fl} {a : List Fl}, newB a l = true → ∀ f ∈ l, flB f = true
  | [], _, _, f, hf => by simp at hf
  | g :: l, a, h, f, hf => by
    unfold newB at h
    simp only [Bool.and_eq_true] at h
    rcases List.mem_cons.1 hf with rfl | hf
    · exact h.1.1
    · exact newB_all h.2 f hf
/-- The bytes of a manifest. -/
def mnS (m : Mn) : ByteArray := cl (bs (mnL m))
theorem mnS_open (m : Mn) : opB (mnS m) = true := (op_cl _).1
theorem mnS_inj {a b : Mn} (ha : mnB a = true) (hb : mnB b = true) (sa : sumsB a.files) (sb : sumsB b.files) (h : mnS a = mnS b) : a = b := by
  have h1 : bs (mnL a) = bs (mnL b) := by
    have e1 := (op_cl (bs (mnL a))).2
    have e2 := (op_cl (bs (mnL b))).2
    unfold mnS at h
    rw [← e1, h, e2]
  have h2 : mnL a = mnL b := by
    have e := congrArg (fun s : ByteArray => s.data.toList) h1
    have k : ∀ l : List UInt8, (bs l).data.toList = l := fun l => by simp [bs]
    have e2 : (bs (mnL a)).data.toList = (bs (mnL b)).data.toList := e
    rw [k, k] at e2
    exact e2
  have na : newB [] a.files = true := by unfold mnB at ha; rw [Bool.and_eq_true] at ha; exact ha.2
  have nb : newB [] b.files = true := by unfold mnB at hb; rw [Bool.and_eq_true] at hb; exact hb.2
  exact mnL_inj ha hb (fun f hf => flB_I (newB_all na f hf) (sa f hf)) (fun f hf => flB_I (newB_all nb f hf) (sb f hf)) h2
/-- What Get tells of s: of one manifest at most. -/
def mnIs (s : ByteArray) (m : Mn) : Prop := mnB m = true ∧ sumsB m.files ∧ mnS m = s
theorem mnIs_one {s : ByteArray} {a b : Mn} (ha : mnIs s a) (hb : mnIs s b) : a = b := mnS_inj ha.1 hb.1 ha.2.1 hb.2.1 (ha.2.2.trans hb.2.2.symm)
theorem mnIs_shut {s : ByteArray} (h : opB s = false) (m : Mn) : ¬ mnIs s m := fun k => by
  have := mnS_open m
  rw [k.2.2, h] at this
  cases this
/-- Of turned bytes there is none. -/
theorem mn_turned {m : Mn} {l : List UInt8} {first v : Nat} (h : Turn (mnS m).data.toList l first v) (hf : first < 8 * (mnS m).size) (hv : v < 4294967296) (h0 : v ≠ 0) (o : Mn) : ¬ mnIs (bs l) o := mnIs_shut (op_turned h hf hv h0) o
def findF (n : ByteArray) : List Fl → Option Fl
  | [] => none
  | f :: t => if f.name = n then some f else findF n t
def withF (g : Fl) : List Fl → List Fl
  | [] => [g]
  | f :: t => if f.name = g.name then g :: t else f :: withF g t
theorem find_with (g : Fl) : ∀ l : List Fl, findF g.name (withF g l) = some g
  | [] => by unfold withF findF; rw [if_pos rfl]
  | f :: t => by
    unfold withF
    by_cases h : f.name = g.name
    · rw [if_pos h]; unfold findF; rw [if_pos rfl]
    · rw [if_neg h]; unfold findF; rw [if_neg h]; exact find_with g t
theorem find_ahead {n : ByteArray} : ∀ {l m : List Fl}, (∀ f ∈ l, f.name ≠ n) → findF n (l ++ m) = findF n m
  | [], _, _ => rfl
  | f :: t, m, h => by
    show (if f.name = n then some f else findF n (t ++ m)) = findF n m
    rw [if_neg (h f (by simp))]
    exact find_ahead (l := t) fun x hx => h x (by simp [hx])
theorem with_ahead {g : Fl} : ∀ {l m : List Fl}, (∀ f ∈ l, f.name ≠ g.name) → withF g (l ++ m) = l ++ withF g m
  | [], _, _ => rfl
  | f :: t, m, h => by
    have ih := with_ahead (g := g) (l := t) (m := m) fun x hx => h x (by simp [hx])
    show (if f.name = g.name then g :: (t ++ m) else f :: withF g (t ++ m)) = f :: (t ++ withF g m)
    rw [if_neg (h f (by simp)), ih]
/-- How long the bytes are. -/
theorem flL_length (f : Fl) : (flL f).length = 14 + f.name.size := by
  unfold flL
  simp only [List.length_append, beL_length]
  have : f.name.data.toList.length = f.name.size := rfl
  omega
theorem mnL_length (m : Mn) : (mnL m).length = 9 + (m.files.map fun f => 14 + f.name.size).sum := by
  unfold mnL
  simp only [List.length_append, beL_length, List.length_flatten, List.map_map, List.length_cons, List.length_nil]
  have e : (m.files.map (List.length ∘ flL)) = m.files.map fun f => 14 + f.name.size := List.map_congr_left fun f _ => flL_length f
  rw [e]; omega
theorem mnS_size (m : Mn) : (mnS m).size = 13 + (m.files.map fun f => 14 + f.name.size).sum := by
  unfold mnS
  rw [cl_size, bs_size, mnL_length]; omega
end MnPlain
end Go.Proofs.YtgopodgjnblgkaaDoor
