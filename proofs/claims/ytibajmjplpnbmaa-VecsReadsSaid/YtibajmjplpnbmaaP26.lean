/- In one text: DsPlain. -/
import Derived.Test.YtibajmjplpnbmaaP25
/- Plain facts on vectors as bytes, without the model. -/
namespace Go.Proofs.Ytibajmjplpnbmaa
open Go.RowKit OctPlain
set_option linter.unusedVariables false
set_option linter.unusedSimpArgs false
set_option maxRecDepth 20000
namespace DsPlain
/-- A number that a vector may have. -/
def fitI (x : Int) : Bool := decide (-16777215 ≤ x ∧ x ≤ 16777215)
/-- A number's four bytes. -/
def cb (x : Int) : List UInt8 := beL 4 (x + 2147483648).toNat
def vecL (v : List Int) : List UInt8 := (v.map cb).flatten
def mkL : List UInt8 := [86, 69, 67, 49]
def nB (n : Int) : Bool := decide (1 ≤ n ∧ n ≤ 1048576)
def dB (d : Int) : Bool := decide (1 ≤ d ∧ d ≤ 4096)
def headL (n d : Nat) : List UInt8 := mkL ++ (beL 4 n ++ beL 2 d)
def dimN (L : List (List Int)) : Nat := (L.headD []).length
def vecB (d : Nat) (v : List Int) : Bool := decide (v.length = d) && v.all fitI
def right (L : List (List Int)) : Bool := nB L.length && dB (dimN L) && L.all (vecB (dimN L))
def bodyL (L : List (List Int)) : List UInt8 := (L.map vecL).flatten
def layL (L : List (List Int)) : List UInt8 := headL L.length (dimN L) ++ bodyL L
def layS (L : List (List Int)) : ByteArray := if right L = true then bs (layL L) else ⟨#[]⟩
theorem layS_no {L : List (List Int)} (h : right L = false) : layS L = ⟨#[]⟩ := by simp [layS, h]
theorem layS_yes {L : List (List Int)} (h : right L = true) : layS L = bs (layL L) := by simp [layS, h]

/-! Bytes of a text. -/
theorem x_data (s : ByteArray) (a b : Nat) : (s.extract a b).data.toList = (s.data.toList.take b).drop a := by
  rw [List.drop_take]; simp [ByteArray.data_extract]
theorem b_data (l : List UInt8) : (bs l).data.toList = l := by simp [bs]
theorem d_length (s : ByteArray) : s.data.toList.length = s.size := Array.length_toList
theorem b_eq {a b : ByteArray} (h : a.data.toList = b.data.toList) : a = b := by
  apply ByteArray.ext; exact Array.toList_inj.1 h
theorem x_size {s : ByteArray} {a k : Nat} (h : a + k ≤ s.size) : (s.extract a (a + k)).size = k := by rw [ByteArray.size_extract]; omega
theorem num_be : ∀ l : List UInt8, beL l.length (num l) = l := by
  intro l
  generalize hk : l.length = k
  induction k generalizing l with
  | zero => rw [List.eq_nil_of_length_eq_zero hk]; rfl
  | succ k ih =>
    obtain ⟨a, b, rfl⟩ : ∃ a b, l = a ++ [b] := ⟨l.dropLast, l.getLast (by intro h; rw [h] at hk; simp at hk), (List.dropLast_concat_getLast _).symm⟩
    have ha : a.length = k := by simpa using hk
    rw [beL, num_snoc]
    have hb := b.toNat_lt
    have h1 : (num a * 256 + b.toNat) / 256 = num a := by omega
    have h2 : (num a * 256 + b.toNat) % 256 = b.toNat := by omega
    rw [h1, h2, ih a ha]
    simp
/-- The bytes from i k on, k of them. -/
def chunk (l : List UInt8) (k i : Nat) : List UInt8 := (l.drop (i * k)).take k
theorem chunks_take (l : List UInt8) (k : Nat) : ∀ q, ((List.range q).map (chunk l k)).flatten = l.take (q * k)
  | 0 => by simp
  | q + 1 => by
    rw [List.range_succ, List.map_append, List.flatten_append, chunks_take l k q, Nat.add_mul, Nat.one_mul, List.take_add]
    simp [chunk]
theorem chunks_flat {l : List UInt8} {k q : Nat} (h : l.length = q * k) : ((List.range q).map (chunk l k)).flatten = l := by
  rw [chunks_take, List.take_of_length_le (by omega)]
theorem flat_chunk {k : Nat} : ∀ {L : List (List UInt8)} {i : Nat} {x : List UInt8}, (∀ y ∈ L, y.length = k) → L[i]? = some x → chunk L.flatten k i = x
  | [], i, x, _, h => by simp at h
  | y :: L, 0, x, hL, h => by
    obtain rfl : y = x := by simpa using h
    have hy := hL y (by simp)
    unfold chunk
    rw [Nat.zero_mul, List.drop_zero, List.flatten_cons, List.take_append_of_le_length (by omega), List.take_of_length_le (by omega)]
  | y :: L, i + 1, x, hL, h => by
    have hy := hL y (by simp)
    have ih := flat_chunk (L := L) (i := i) (x := x) (fun z hz => hL z (by simp [hz])) (by simpa using h)
    unfold chunk at ih ⊢
    rw [List.flatten_cons, Nat.add_mul, Nat.one_mul, ← ih]
    congr 1
    rw [show i * k + k = y.length + i * k by omega, ← List.drop_drop, List.drop_left]
theorem chunk_length {l : List UInt8} {k q i : Nat} (h : l.length = q * k) (hi : i < q) : (chunk l k i).length = k := by
  unfold chunk
  rw [List.length_take, List.length_drop, h]
  have := Nat.mul_le_mul_right k (show i + 1 ≤ q by omega)
  rw [Nat.add_mul, Nat.one_mul] at this
  omega
theorem flat_length {k : Nat} : ∀ {L : List (List UInt8)}, (∀ y ∈ L, y.length = k) → L.flatten.length = L.length * k
  | [], _ => by simp
  | y :: L, h => by
    rw [List.flatten_cons, List.length_append, flat_length (fun z hz => h z (by simp [hz])), h y (by simp), List.length_cons, Nat.add_mul, Nat.one_mul, Nat.add_comm]

/-! Numbers. -/
theorem cb_length (x : Int) : (cb x).length = 4 := beL_length 4 _
theorem vecL_length (v : List Int) : (vecL v).length = v.length * 4 := by
  unfold vecL
  rw [flat_length (k := 4) (fun y hy => by obtain ⟨x, _, rfl⟩ := List.mem_map.1 hy; exact cb_length x), List.length_map]
theorem vecL_snoc (v : List Int) (x : Int) : vecL (v ++ [x]) = vecL v ++ cb x := by simp [vecL]
theorem fit_coord {x : Int} (h : fitI x = true) : coordS x = bs (cb x) := by
  unfold fitI at h; rw [decide_eq_true_iff] at h
  rw [coordS_yes (by omega) (by omega), put_ok (fits4 (by omega) (by omega))]
  rfl
theorem cb_size {x : Int} (h : fitI x = true) : (coordS x).size = 4 := by rw [fit_coord h, bs_size, cb_length]
theorem getB4 {s : ByteArray} {a : Nat} (h : a + 4 ≤ s.size) : getB s (a : Int) 4 = true := by
  unfold getB
  rw [decide_eq_true_iff]
  refine ⟨by omega, by omega, by omega, ?_⟩
  have h1 := num_lt (cutL s (a : Int).toNat (4 : Int).toNat)
  rw [cutL_length _ _ _ (by simpa using h)] at h1
  have : (256 : Nat) ^ (4 : Int).toNat = 4294967296 := rfl
  omega
theorem getN4 {s : ByteArray} {a : Nat} (h : a + 4 ≤ s.size) : getN s (a : Int) 4 = num (cutL s a 4) := by
  unfold getN; rw [if_pos (getB4 h)]; rfl
theorem num4_lt {s : ByteArray} {a : Nat} (h : a + 4 ≤ s.size) : num (cutL s a 4) < 4294967296 := by
  have h1 := num_lt (cutL s a 4)
  rw [cutL_length _ _ _ h] at h1
  exact h1
theorem gc4 {s : ByteArray} {a : Nat} (h : a + 4 ≤ s.size) : gcN s (a : Int) = (num (cutL s a 4) : Int) - 2147483648 := by
  unfold gcN
  rw [if_pos (getB4 h), getN4 h]
  have := num4_lt h
  unfold wrap64; omega
theorem gc_le (s : ByteArray) (a : Nat) (h : a + 4 ≤ s.size) : -2147483648 ≤ gcN s (a : Int) ∧ gcN s (a : Int) < 2147483648 := by
  rw [gc4 h]; have := num4_lt h; omega
theorem cutL_x {s : ByteArray} {a k b m : Nat} (h : b + m ≤ k) : cutL (s.extract a (a + k)) b m = cutL s (a + b) m := by
  unfold cutL
  rw [x_data, List.drop_drop, List.drop_take, List.take_take]
  rw [Nat.min_eq_left (by omega)]
theorem cutL_x0 {s : ByteArray} {n b m : Nat} (h : b + m ≤ n) : cutL (s.extract 0 n) b m = cutL s b m := by
  have := cutL_x (s := s) (a := 0) (k := n) h
  rwa [Nat.zero_add, Nat.zero_add] at this
theorem gc_x {s : ByteArray} {a k b : Nat} (h : b + 4 ≤ k) (hk : a + k ≤ s.size) : gcN (s.extract a (a + k)) (b : Int) = gcN s ((a + b : Nat) : Int) := by
  rw [gc4 (by rw [x_size hk]; omega), gc4 (by omega), cutL_x h]
/-- The numbers of a text's bytes, d of them. -/
def nums (s : ByteArray) (d : Nat) : List Int := (List.range d).map (fun j => gcN s ((4 * j : Nat) : Int))
theorem nums_length (s : ByteArray) (d : Nat) : (nums s d).length = d := by simp [nums]
theorem nums_snoc (s : ByteArray) (d : Nat) : nums s (d + 1) = nums s d ++ [gcN s ((4 * d : Nat) : Int)] := by simp [nums, List.range_succ]
theorem nums_take {s : ByteArray} {d j : Nat} (h : j ≤ d) : (nums s d).take j = nums s j := by
  unfold nums
  rw [← List.map_take, List.take_range, Nat.min_eq_left h]
theorem nums_no {s : ByteArray} {d j : Nat} (h : j < d) (hf : fitI (gcN s ((4 * j : Nat) : Int)) = false) : (nums s d).all fitI = false := by
  rw [List.all_eq_false]
  exact ⟨_, List.mem_map.2 ⟨j, List.mem_range.2 h, rfl⟩, by rw [hf]; simp⟩
theorem num_cb {x : Int} (h : fitI x = true) : (num (cb x) : Int) = x + 2147483648 := by
  unfold fitI at h; rw [decide_eq_true_iff] at h
  unfold cb
  rw [num_beL 4 _ (by have : (256 : Nat) ^ 4 = 4294967296 := rfl; omega)]
  omega
theorem vec_nums {v : List Int} (h : v.all fitI = true) : nums (bs (vecL v)) v.length = v := by
  rw [List.all_eq_true] at h
  apply List.ext_getElem
  · rw [nums_length]
  · intro i h1 h2
    rw [nums_length] at h1
    have hg : (nums (bs (vecL v)) v.length)[i]'(by rw [nums_length]; omega) = gcN (bs (vecL v)) ((4 * i : Nat) : Int) := by simp [nums]
    rw [hg]
    have hm := Nat.mul_le_mul_left 4 (show i + 1 ≤ v.length by omega)
    have hz : 4 * i + 4 ≤ (bs (vecL v)).size := by rw [bs_size, vecL_length]; omega
    rw [gc4 hz]
    have hc : cutL (bs (vecL v)) (4 * i) 4 = cb v[i] := by
      unfold cutL
      rw [b_data, Nat.mul_comm 4 i]
      exact flat_chunk (k := 4) (L := v.map cb) (fun y hy => by obtain ⟨x, _, rfl⟩ := List.mem_map.1 hy; exact cb_length x) (by rw [List.getElem?_map, List.getElem?_eq_getElem h2]; rfl)
    rw [hc, num_cb (h _ (List.getElem_mem h2))]
    omega
theorem cb_gc {s : ByteArray} {a : Nat} (h : a + 4 ≤ s.size) : cb (gcN s (a : Int)) = cutL s a 4 := by
  unfold cb
  rw [gc4 h, show ((num (cutL s a 4) : Int) - 2147483648 + 2147483648).toNat = num (cutL s a 4) by omega]
  have := num_be (cutL s a 4)
  rwa [cutL_length _ _ _ h] at this
theorem nums_vec {s : ByteArray} {d : Nat} (h : s.size = d * 4) : vecL (nums s d) = s.data.toList := by
  have h1 := chunks_flat (l := s.data.toList) (k := 4) (q := d) (by rw [d_length, h])
  rw [← h1]
  unfold vecL nums
  rw [List.map_map]
  congr 1
  apply List.map_congr_left
  intro j hj
  rw [List.mem_range] at hj
  have hm := Nat.mul_le_mul_left 4 (show j + 1 ≤ d by omega)
  show cb (gcN s ((4 * j : Nat) : Int)) = chunk s.data.toList 4 j
  rw [cb_gc (by omega)]
  unfold cutL chunk
  rw [Nat.mul_comm 4 j]

/-! What bytes tell. -/
def vB (s : ByteArray) (d : Int) : Bool := dB d && decide ((s.size : Int) = 4 * d) && (nums s d.toNat).all fitI
def vL (s : ByteArray) (d : Int) : List Int := if vB s d = true then nums s d.toNat else []
theorem vL_no {s : ByteArray} {d : Int} (h : vB s d = false) : vL s d = [] := by simp [vL, h]
theorem vL_yes {s : ByteArray} {d : Int} (h : vB s d = true) : vL s d = nums s d.toNat := by simp [vL, h]
def plN (d i : Int) : Int := if dB d = true ∧ 0 ≤ i ∧ i ≤ 1048576 then 10 + 4 * d * i else 0
def shN (h : ByteArray) : Int := getN h 4 4
def shD (h : ByteArray) : Int := getN h 8 2
def shB (h : ByteArray) (size : Int) : Bool := decide (h.size = 10) && decide (h.data.toList.take 4 = mkL) && nB (shN h) && dB (shD h) && decide (size = 10 + 4 * shN h * shD h)
def shn (h : ByteArray) (size : Int) : Int := if shB h size = true then shN h else 0
def shd (h : ByteArray) (size : Int) : Int := if shB h size = true then shD h else 0
def she (h : ByteArray) (size : Int) : Int := if shB h size = true then 0 else 7
/-- The bytes of the vector i, of d numbers each. -/
def piece (s : ByteArray) (d i : Nat) : ByteArray := s.extract (10 + i * (d * 4)) (10 + i * (d * 4) + d * 4)
def rows (s : ByteArray) (d n : Nat) : List (List Int) := (List.range n).map (fun i => nums (piece s d i) d)
def hd (s : ByteArray) : ByteArray := s.extract 0 (min 10 s.size)
def pB (s : ByteArray) : Bool := shB (hd s) s.size && (rows s (shD (hd s)).toNat (shN (hd s)).toNat).all (fun v => v.all fitI)
def pL (s : ByteArray) : List (List Int) := if pB s = true then rows s (shD (hd s)).toNat (shN (hd s)).toNat else []
def pE (s : ByteArray) : Int := if pB s = true then 0 else 7
theorem pL_no {s : ByteArray} (h : pB s = false) : pL s = [] := by simp [pL, h]
theorem pL_yes {s : ByteArray} (h : pB s = true) : pL s = rows s (shD (hd s)).toNat (shN (hd s)).toNat := by simp [pL, h]
theorem rows_length (s : ByteArray) (d n : Nat) : (rows s d n).length = n := by simp [rows]
theorem rows_snoc (s : ByteArray) (d n : Nat) : rows s d (n + 1) = rows s d n ++ [nums (piece s d n) d] := by simp [rows, List.range_succ]
theorem rows_no {s : ByteArray} {d n i : Nat} (h : i < n) (hf : (nums (piece s d i) d).all fitI = false) : (rows s d n).all (fun v => v.all fitI) = false := by
  rw [List.all_eq_false]
  exact ⟨_, List.mem_map.2 ⟨i, List.mem_range.2 h, rfl⟩, by rw [hf]; simp⟩
theorem rows_mem {s : ByteArray} {d n : Nat} {v : List Int} (h : v ∈ rows s d n) : v.length = d := by
  obtain ⟨i, _, rfl⟩ := List.mem_map.1 h
  exact nums_length _ _
end DsPlain
end Go.Proofs.Ytibajmjplpnbmaa
