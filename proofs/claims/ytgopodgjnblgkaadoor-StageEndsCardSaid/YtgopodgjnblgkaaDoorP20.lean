/- In one text: MnCut. -/
import Derived.Test.YtgopodgjnblgkaaDoorP18
import Derived.Test.YtgopodgjnblgkaaDoorP19
/- Plain facts of a manifest's bytes: where each field lies; steps of the loops that walk files. -/
namespace Go.Proofs.YtgopodgjnblgkaaDoor
open Go.RowKit FsPlain CrcPlain OctPlain
set_option linter.unusedVariables false
set_option linter.unusedSimpArgs false
namespace MnPlain
theorem cut_app {s : ByteArray} {p x q : List UInt8} {a k : Nat} (h : s.data.toList = p ++ (x ++ q)) (ha : a = p.length) (hk : k = x.length) : cutL s a k = x := by
  subst ha hk
  unfold cutL
  rw [h, List.drop_left, List.take_left]
theorem get_app {s : ByteArray} {p q : List UInt8} {k n a : Nat} (hk : 1 ≤ k ∧ k ≤ 8) (hn : n < 256 ^ k) (hn2 : n < 9223372036854775808) (h : s.data.toList = p ++ (beL k n ++ q)) (ha : a = p.length) : getB s (a : Int) (k : Int) = true ∧ getN s (a : Int) (k : Int) = (n : Int) := by
  have hc := cut_app (k := k) h ha (by rw [beL_length])
  have hs : s.size = p.length + (k + q.length) := by
    have e : s.data.toList.length = s.size := rfl
    rw [← e, h, List.length_append, List.length_append, beL_length]
  have hb : getB s (a : Int) (k : Int) = true := getB_yes hk (by omega) (by rw [hc, num_beL k n hn]; exact hn2)
  exact ⟨hb, by rw [getN_yes hb, hc, num_beL k n hn]⟩
/-- Where the file behind these begins. -/
def posN (l : List Fl) : Nat := 9 + (l.map fun f => 14 + f.name.size).sum
theorem posN_snoc (l : List Fl) (f : Fl) : posN (l ++ [f]) = posN l + 14 + f.name.size := by
  unfold posN
  rw [List.map_append, List.sum_append]
  simp; omega
theorem flat_length (l : List Fl) : ((l.map flL).flatten).length = (l.map fun f => 14 + f.name.size).sum := by
  rw [List.length_flatten, List.map_map]
  congr 1
  exact List.map_congr_left fun f _ => flL_length f
theorem mnS_data (m : Mn) : (mnS m).data.toList = mnL m ++ tl (more 0 (mnL m)) := by
  have k : ∀ l : List UInt8, (bs l).data.toList = l := fun l => by simp [bs]
  unfold mnS cl
  rw [ByteArray.data_append, Array.toList_append, k, k]
/-- The head of the bytes. -/
theorem mn_head {m : Mn} (h : mnB m = true) : getN (mnS m) 4 2 = m.stage ∧ getN (mnS m) 6 2 = m.pass ∧ cutL (mnS m) 8 1 = beL 1 m.files.length ∧ m.files.length ≤ 16 := by
  unfold mnB at h
  simp only [Bool.and_eq_true, decide_eq_true_eq] at h
  obtain ⟨⟨⟨a1, a2⟩, ⟨a3, a4⟩, a5⟩, _⟩ := h
  have hd := mnS_data m
  unfold mnL at hd
  have e1 : (mnS m).data.toList = [77, 65, 78, 49] ++ (beL 2 m.stage.toNat ++ (beL 2 m.pass.toNat ++ (beL 1 m.files.length ++ ((m.files.map flL).flatten ++ tl (more 0 (mnL m)))))) := by
    rw [hd]; simp only [List.append_assoc]; rfl
  have e2 : (mnS m).data.toList = ([77, 65, 78, 49] ++ beL 2 m.stage.toNat) ++ (beL 2 m.pass.toNat ++ (beL 1 m.files.length ++ ((m.files.map flL).flatten ++ tl (more 0 (mnL m))))) := by
    rw [e1, List.append_assoc]
  have e3 : (mnS m).data.toList = (([77, 65, 78, 49] ++ beL 2 m.stage.toNat) ++ beL 2 m.pass.toNat) ++ (beL 1 m.files.length ++ ((m.files.map flL).flatten ++ tl (more 0 (mnL m)))) := by
    rw [e2]; simp only [List.append_assoc]
  have g1 := (get_app (a := 4) (k := 2) (n := m.stage.toNat) (by decide) (by omega) (by omega) e1 rfl).2
  have g2 := (get_app (a := 6) (k := 2) (n := m.pass.toNat) (by decide) (by omega) (by omega) e2 (by simp [beL_length])).2
  refine ⟨?_, ?_, cut_app e3 (by simp [beL_length]) (by rw [beL_length]), a5⟩
  · have : getN (mnS m) 4 2 = (m.stage.toNat : Int) := g1
    rw [this]; omega
  · have : getN (mnS m) 6 2 = (m.pass.toNat : Int) := g2
    rw [this]; omega
/-- A file's bytes among them. -/
theorem mn_at {m : Mn} {l t : List Fl} {f : Fl} (h : m.files = l ++ f :: t) : ∃ p q, (mnS m).data.toList = p ++ (flL f ++ q) ∧ p.length = posN l ∧ 4 ≤ q.length := by
  refine ⟨[77, 65, 78, 49] ++ (beL 2 m.stage.toNat ++ (beL 2 m.pass.toNat ++ (beL 1 m.files.length ++ (l.map flL).flatten))), (t.map flL).flatten ++ tl (more 0 (mnL m)), ?_, ?_, ?_⟩
  · rw [mnS_data]
    unfold mnL
    rw [h, List.map_append, List.flatten_append, List.map_cons, List.flatten_cons]
    simp only [List.append_assoc]
  · unfold posN
    rw [← flat_length]
    simp only [List.length_append, beL_length, List.length_cons, List.length_nil]
    omega
  · rw [List.length_append, tl_length]; omega
/-- Where its fields lie. -/
theorem fl_at {s : ByteArray} {p q : List UInt8} {f : Fl} {a : Nat} (hf : flI f) (hc : f.count < 9223372036854775808) (h : s.data.toList = p ++ (flL f ++ q)) (ha : a = p.length) :
    (getB s (a : Int) 1 = true ∧ getN s (a : Int) 1 = (f.name.size : Nat)) ∧ cutL s (a + 1) f.name.size = f.name.data.toList ∧ getN s ((a + 1 + f.name.size : Nat) : Int) 1 = f.size ∧ (getB s ((a + 1 + f.name.size + 1 : Nat) : Int) 8 = true ∧ getN s ((a + 1 + f.name.size + 1 : Nat) : Int) 8 = f.count) ∧ getN s ((a + 1 + f.name.size + 9 : Nat) : Int) 4 = f.sum ∧ s.size = a + 14 + f.name.size + q.length := by
  obtain ⟨f1, ⟨f2, f3⟩, ⟨f4, f5⟩, f6, f7⟩ := hf
  have hn : f.name.data.toList.length = f.name.size := rfl
  unfold flL at h
  have e1 : s.data.toList = p ++ (beL 1 f.name.size ++ (f.name.data.toList ++ (beL 1 f.size.toNat ++ (beL 8 f.count.toNat ++ (beL 4 f.sum.toNat ++ q))))) := by rw [h]; simp only [List.append_assoc]
  have e2 : s.data.toList = (p ++ beL 1 f.name.size) ++ (f.name.data.toList ++ (beL 1 f.size.toNat ++ (beL 8 f.count.toNat ++ (beL 4 f.sum.toNat ++ q)))) := by rw [e1]; simp only [List.append_assoc]
  have e3 : s.data.toList = ((p ++ beL 1 f.name.size) ++ f.name.data.toList) ++ (beL 1 f.size.toNat ++ (beL 8 f.count.toNat ++ (beL 4 f.sum.toNat ++ q))) := by rw [e1]; simp only [List.append_assoc]
  have e4 : s.data.toList = (((p ++ beL 1 f.name.size) ++ f.name.data.toList) ++ beL 1 f.size.toNat) ++ (beL 8 f.count.toNat ++ (beL 4 f.sum.toNat ++ q)) := by rw [e1]; simp only [List.append_assoc]
  have e5 : s.data.toList = ((((p ++ beL 1 f.name.size) ++ f.name.data.toList) ++ beL 1 f.size.toNat) ++ beL 8 f.count.toNat) ++ (beL 4 f.sum.toNat ++ q) := by rw [e1]; simp only [List.append_assoc]
  have l2 : (p ++ beL 1 f.name.size).length = a + 1 := by rw [List.length_append, beL_length, ha]
  have l3 : ((p ++ beL 1 f.name.size) ++ f.name.data.toList).length = a + 1 + f.name.size := by rw [List.length_append, l2, hn]
  have l4 : (((p ++ beL 1 f.name.size) ++ f.name.data.toList) ++ beL 1 f.size.toNat).length = a + 1 + f.name.size + 1 := by rw [List.length_append, l3, beL_length]
  have l5 : ((((p ++ beL 1 f.name.size) ++ f.name.data.toList) ++ beL 1 f.size.toNat) ++ beL 8 f.count.toNat).length = a + 1 + f.name.size + 9 := by rw [List.length_append, l4, beL_length]
  have g1 := get_app (a := a) (k := 1) (n := f.name.size) (by decide) (by rw [Nat.pow_one]; exact f1) (by omega) e1 ha
  have g3 := get_app (a := a + 1 + f.name.size) (k := 1) (n := f.size.toNat) (by decide) (by omega) (by omega) e3 l3.symm
  have g4 := get_app (a := a + 1 + f.name.size + 1) (k := 8) (n := f.count.toNat) (by decide) (by omega) (by omega) e4 l4.symm
  have g5 := get_app (a := a + 1 + f.name.size + 9) (k := 4) (n := f.sum.toNat) (by decide) (by omega) (by omega) e5 l5.symm
  refine ⟨g1, cut_app e2 l2.symm hn.symm, ?_, ⟨g4.1, ?_⟩, ?_, ?_⟩
  · have := g3.2
    rw [Int.toNat_of_nonneg f2] at this; exact this
  · have := g4.2
    rw [Int.toNat_of_nonneg f4] at this; exact this
  · have := g5.2
    rw [Int.toNat_of_nonneg f6] at this; exact this
  · have e : s.data.toList.length = s.size := rfl
    rw [← e, e5, List.length_append, l5, List.length_append, beL_length]; omega
end MnPlain
end Go.Proofs.YtgopodgjnblgkaaDoor
