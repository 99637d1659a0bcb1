/- In one text: OctPut, OctPut2, OctRput, MnRef5, DsRow, MnRow, Text, TextW, MnRef6, OctRget. -/
import Derived.Test.YtignfbdgpgidpaaGreatDoorK00
import Derived.Test.YtignfbdgpgidpaaGreatDoorK10
import Derived.WalkKit
import Derived.ProofKit
import Derived.Below
import Derived.Handy
import Derived.WalkLawsBesides
import Derived.Outline
import Derived.Test.YtignfbdgpgidpaaGreatDoorK11
import Derived.Lib.Hide
import Derived.Test.YtignfbdgpgidpaaGreatDoorK13
import Derived.Maps.AppendAt
import Derived.Test.YtignfbdgpgidpaaGreatDoorK12
import Derived.Test.YtignfbdgpgidpaaGreatDoorK08
import Derived.Deep.AppendLies
import Derived.Orders
import Derived.BigQuiet
/- Contracts of layer octet's functions that make bytes, and of the document's answers to them, each by a walk of its text. -/
namespace Go.Proofs.YtignfbdgpgidpaaGreatDoor
open Go.RowKit OctPlain
set_option linter.unusedVariables false
set_option linter.unusedSimpArgs false
set_option maxRecDepth 20000
set_option maxHeartbeats 1000000 in
theorem full_c (n : Int) (hn : I64 n) (w : World) :
    Calls Tryz.prog 169 #[.int .i64 n] w fun e w' => e = .returned (.agg #[Value.int IntKind.u8 (n / 72057594037927936 % 256), Value.int IntKind.u8 (n / 281474976710656 % 256),
              Value.int IntKind.u8 (n / 1099511627776 % 256), Value.int IntKind.u8 (n / 4294967296 % 256),
              Value.int IntKind.u8 (n / 16777216 % 256), Value.int IntKind.u8 (n / 65536 % 256),
              Value.int IntKind.u8 (n / 256 % 256), Value.int IntKind.u8 (n % 256)]) ∧ Gr w w' := by
  go_enter Tryz.func169, Tryz.ntmps169
  go_wp2_with fail
  go_rounds 9
  refine bodyPost_ret (v := .agg #[Value.int IntKind.u8 (n / 72057594037927936 % 256), Value.int IntKind.u8 (n / 281474976710656 % 256),
              Value.int IntKind.u8 (n / 1099511627776 % 256), Value.int IntKind.u8 (n / 4294967296 % 256),
              Value.int IntKind.u8 (n / 16777216 % 256), Value.int IntKind.u8 (n / 65536 % 256),
              Value.int IntKind.u8 (n / 256 % 256), Value.int IntKind.u8 (n % 256)]) (by simp [results, Tryz.results169, go_sem]) rfl ⟨rfl, Gr.of (by go_grown)⟩
set_option maxHeartbeats 1000000 in
theorem sized_c (k : Int) (hk : I64 k) (w : World) :
    Calls Tryz.prog 176 #[.int .i64 k] w fun e w' => e = .returned (.bool (decide (1 ≤ k ∧ k ≤ 8))) ∧ w = w' := by
  by_cases h1 : 1 ≤ k <;> by_cases h2 : k ≤ 8
  all_goals
    go_enter Tryz.func176, Tryz.ntmps176
    go_wp2
    go_ret
    exact ⟨by simp [h1, h2], rfl⟩
theorem ret_b {a b : Bool} (h : a = b) : Ending.returned (.bool a) = .returned (.bool b) := by rw [h]
theorem b_of {a : Bool} {p : Prop} [Decidable p] (h : a = true ↔ p) : a = decide p := by
  cases a <;> simp_all
set_option maxHeartbeats 1000000 in
theorem fits_c (n k : Int) (hn : I64 n) (hk : I64 k) (w : World) :
    Calls Tryz.prog 168 #[.int .i64 n, .int .i64 k] w fun e w' => e = .returned (.bool (fitsB n k)) ∧ w = w' := by
  unfold I64 at hn hk
  by_cases h : 1 ≤ k ∧ k ≤ 8
  · have hd : decide (1 ≤ k ∧ k ≤ 8) = true := by simpa using h
    have hk8 : k = 1 ∨ k = 2 ∨ k = 3 ∨ k = 4 ∨ k = 5 ∨ k = 6 ∨ k = 7 ∨ k = 8 := by omega
    rcases hk8 with rfl | rfl | rfl | rfl | rfl | rfl | rfl | rfl
    all_goals
      go_enter Tryz.func168, Tryz.ntmps168
      go_wp2_with fail
      refine (sized_c _ hk _).mono ?_
      rintro e u ⟨rfl, rfl⟩
      go_wp2
      go_ret
      refine ⟨ret_b (b_of ?_), rfl⟩
      simp
      omega
  · have hd : decide (1 ≤ k ∧ k ≤ 8) = false := by simpa using h
    have hf : fitsB n k = false := by simp [fitsB, h]
    go_enter Tryz.func168, Tryz.ntmps168
    go_wp2_with fail
    refine (sized_c k hk _).mono ?_
    rintro e u ⟨rfl, rfl⟩
    go_wp2
    go_ret
    exact ⟨ret_b hf.symm, rfl⟩
end Go.Proofs.YtignfbdgpgidpaaGreatDoor
/- Contracts of Put and PutCoord, and of the document's answers to them. -/
namespace Go.Proofs.YtignfbdgpgidpaaGreatDoor
open Go.RowKit OctPlain
set_option linter.unusedVariables false
set_option linter.unusedSimpArgs false
set_option maxRecDepth 20000
theorem conv8 (u : World) (n : Int) (k : Nat) (hn : 0 ≤ n) (hk : 1 ≤ k ∧ k ≤ 8) :
    (convert 94 9 (.slice (some ⟨u.heap.size, 8 - k, none⟩) k k)).run Tryz.prog (u.alloc (.cells #[Value.int IntKind.u8 (n / 72057594037927936 % 256), Value.int IntKind.u8 (n / 281474976710656 % 256),
              Value.int IntKind.u8 (n / 1099511627776 % 256), Value.int IntKind.u8 (n / 4294967296 % 256),
              Value.int IntKind.u8 (n / 16777216 % 256), Value.int IntKind.u8 (n / 65536 % 256),
              Value.int IntKind.u8 (n / 256 % 256), Value.int IntKind.u8 (n % 256)] 202)) = .ok (.string (bs (beL k n.toNat))) (u.alloc (.cells #[Value.int IntKind.u8 (n / 72057594037927936 % 256), Value.int IntKind.u8 (n / 281474976710656 % 256),
              Value.int IntKind.u8 (n / 1099511627776 % 256), Value.int IntKind.u8 (n / 4294967296 % 256),
              Value.int IntKind.u8 (n / 16777216 % 256), Value.int IntKind.u8 (n / 65536 % 256),
              Value.int IntKind.u8 (n / 256 % 256), Value.int IntKind.u8 (n % 256)] 202)) := by
  obtain ⟨m, rfl⟩ : ∃ m : Nat, n = m := ⟨n.toNat, by omega⟩
  refine conv_list _ _ _ _ (beL_length k m) ?_
  intro j x hx
  have hj : j < k := by
    have := (List.getElem?_eq_some_iff.1 hx).1
    rw [beL_length] at this; exact this
  have ea : Addr.add ⟨u.heap.size, 8 - k, none⟩ j = ⟨u.heap.size, 8 - k + j, none⟩ := by simp [Addr.add]
  rw [ea, World.cell?_alloc_mark]
  have hk8 : k = 1 ∨ k = 2 ∨ k = 3 ∨ k = 4 ∨ k = 5 ∨ k = 6 ∨ k = 7 ∨ k = 8 := by omega
  rcases hk8 with rfl | rfl | rfl | rfl | rfl | rfl | rfl | rfl
  all_goals
    have hj8 : j = 0 ∨ j = 1 ∨ j = 2 ∨ j = 3 ∨ j = 4 ∨ j = 5 ∨ j = 6 ∨ j = 7 := by omega
    rcases hj8 with rfl | rfl | rfl | rfl | rfl | rfl | rfl | rfl <;> first | (exfalso; omega) | (simp [beL] at hx; subst hx; simp; done) | (simp [beL] at hx; subst hx; simp; omega)
def b1 (b : UInt8) : ByteArray := bs [b]
theorem conv1 (u : World) (x : Int) (h0 : 0 ≤ x) (h1 : x < 256) :
    (convert 94 9 (.slice (some ⟨u.heap.size, 0, none⟩) 1 1)).run Tryz.prog (u.alloc (.cells #[Value.int IntKind.u8 x] 5)) = .ok (.string (bs [UInt8.ofNat x.toNat])) (u.alloc (.cells #[Value.int IntKind.u8 x] 5)) := by
  refine conv_list _ _ _ _ rfl ?_
  intro j y hy
  obtain rfl : j = 0 := by
    have := (List.getElem?_eq_some_iff.1 hy).1
    simpa using this
  simp at hy
  subst hy
  show World.cell? _ ⟨u.heap.size, 0 + 0, none⟩ = _
  rw [World.cell?_alloc_mark]
  simp
  omega
set_option maxHeartbeats 1000000 in
theorem put_c (n k : Int) (hn : I64 n) (hk : I64 k) (w : World) :
    Calls Tryz.prog 145 #[.int .i64 n, .int .i64 k] w fun e w' => e = .returned (.tuple #[.string (putS n k), .bool (fitsB n k)]) ∧ Gr w w' := by
  cases hf : fitsB n k
  · have hp := put_no hf
    go_enter Tryz.func145, Tryz.ntmps145
    go_wp2_with fail
    refine (fits_c n k hn hk _).mono ?_
    rintro e u ⟨rfl, rfl⟩
    go_wp2
    go_ret2
    exact ⟨ret_sb hp.symm rfl, Gr.refl _⟩
  · have hf' := hf
    simp only [fitsB, decide_eq_true_eq] at hf'
    obtain ⟨hk8, hn0, _⟩ := hf'
    have hp : putS n k = bs (beL k.toNat n.toNat) := by simp [putS, hf]
    have hm : k = 1 ∨ k = 2 ∨ k = 3 ∨ k = 4 ∨ k = 5 ∨ k = 6 ∨ k = 7 ∨ k = 8 := by omega
    rcases hm with rfl | rfl | rfl | rfl | rfl | rfl | rfl | rfl
    case' inl => have hc := fun u => conv8 u n 1 hn0 (by omega)
    case' inr.inl => have hc := fun u => conv8 u n 2 hn0 (by omega)
    case' inr.inr.inl => have hc := fun u => conv8 u n 3 hn0 (by omega)
    case' inr.inr.inr.inl => have hc := fun u => conv8 u n 4 hn0 (by omega)
    case' inr.inr.inr.inr.inl => have hc := fun u => conv8 u n 5 hn0 (by omega)
    case' inr.inr.inr.inr.inr.inl => have hc := fun u => conv8 u n 6 hn0 (by omega)
    case' inr.inr.inr.inr.inr.inr.inl => have hc := fun u => conv8 u n 7 hn0 (by omega)
    case' inr.inr.inr.inr.inr.inr.inr => have hc := fun u => conv8 u n 8 hn0 (by omega)
    all_goals
      go_enter Tryz.func145, Tryz.ntmps145
      go_wp2_with fail
      refine (fits_c n _ hn hk _).mono ?_
      rintro e u ⟨rfl, rfl⟩
      go_wp2_with fail
      refine (full_c n hn _).mono ?_
      rintro e u ⟨rfl, g⟩
      go_wp2
      go_ret2
      exact ⟨ret_sb hp.symm rfl, g.trans (Gr.of (by go_grown))⟩
end Go.Proofs.YtignfbdgpgidpaaGreatDoor
/- Contracts of the document's Put, and of PutCoord on both sides. -/
namespace Go.Proofs.YtignfbdgpgidpaaGreatDoor
open Go.RowKit OctPlain
set_option linter.unusedVariables false
set_option linter.unusedSimpArgs false
set_option maxRecDepth 20000
def PutAt (n k : Int) (B : Nat) (w : World) (v s i : Value) (wr : World) : Prop :=
  ∃ j : Nat, (j : Int) ≤ k ∧ i = .int .i64 j ∧ v = .int .i64 (n / 256 ^ j) ∧ s = .string (bs (beL j n.toNat)) ∧ Below B w wr
set_option maxHeartbeats 1000000 in
theorem rput_c (n k : Int) (hn : I64 n) (hk : I64 k) (w : World) :
    Calls Tryz.prog 142 #[.int .i64 n, .int .i64 k] w fun e w' => e = .returned (.tuple #[.string (putS n k), .bool (fitsB n k)]) ∧ Gr w w' := by
  unfold I64 at hn hk
  by_cases h : (1 ≤ k ∧ k ≤ 8) ∧ 0 ≤ n
  · obtain ⟨hk8, hn0⟩ := h
    go_enter Tryz.func142, Tryz.ntmps142
    go_wp2_with fail
    go_loopw [0, 6, 7] (fun v s i wr => PutAt n k w.heap.size w v s i wr) (fun _ _ i _ => (k - intOf i).toNat)
    case atStart => exact ⟨0, by omega, by simp, by simp, by simp [beL, bs], Below.refl _ _⟩
    case round =>
      obtain ⟨j, hj, rfl, rfl, rfl, hb⟩ := hrel
      have hm0 : 0 ≤ n / 256 ^ j := Int.ediv_nonneg hn0 (Int.pow_nonneg (by omega))
      have hm1 : n / 256 ^ j ≤ n := Int.ediv_le_self _ hn0
      have hstep : n / 256 ^ (j + 1) = n / 256 ^ j / 256 := by rw [Int.pow_succ, Int.ediv_ediv_of_nonneg (Int.pow_nonneg (by omega))]
      by_cases hlt : (j : Int) < k
      · obtain ⟨m, hm⟩ : ∃ m, m = n / 256 ^ j := ⟨_, rfl⟩
        rw [← hm] at hm0 hm1 hstep ⊢
        have hc := fun u => conv1 u (m % 256) (by omega) (by omega)
        have s1 : (bs [UInt8.ofNat (m % 256).toNat]).size = 1 := bs_size _
        have s2 : (bs (beL j n.toNat)).size = j := by rw [bs_size, beL_length]
        have hnew : bs [UInt8.ofNat (m % 256).toNat] ++ bs (beL j n.toNat) = bs (beL (j + 1) n.toNat) := by
          rw [bs_app, beL_top, hm]
          rw [dig_cast n hn0]
          rfl
        have hnew' := Lib.hid hnew
        clear hm hnew
        go_wp2
        refine ⟨⟨j + 1, by omega, rfl, by rw [hstep], by rw [hnew'.out], Below.alloc hb hb.size _⟩, ?_⟩
        simp [intOf]; omega
      · obtain rfl : k = j := by omega
        have hfit : fitsB n j = decide (n / 256 ^ j = 0) := fits_at hk8 hn0
        by_cases hz : 0 < n / 256 ^ j
        · have hf : fitsB n j = false := by rw [hfit]; simp; omega
          have hp := put_no hf
          clear hfit
          go_wp2
          go_ret2
          first | exact ⟨rfl, Gr.of hb⟩ | exact ⟨ret_sb hp.symm hf.symm, Gr.of hb⟩
        · have hf : fitsB n j = true := by rw [hfit]; simp; omega
          have hp : putS n j = bs (beL j n.toNat) := by simp [putS, hf]
          clear hfit
          go_wp2
          go_ret2
          first | exact ⟨rfl, Gr.of hb⟩ | exact ⟨ret_sb hp.symm hf.symm, Gr.of hb⟩
  · have hf : fitsB n k = false := by
      simp only [fitsB, decide_eq_false_iff_not]
      intro hh; exact h ⟨hh.1, hh.2.1⟩
    have hp := put_no hf
    by_cases k1 : k < 1
    · go_enter Tryz.func142, Tryz.ntmps142
      go_wp2
      go_ret2
      first | exact ⟨rfl, Gr.refl _⟩ | exact ⟨ret_sb hp.symm hf.symm, Gr.refl _⟩
    · by_cases k2 : 8 < k
      · go_enter Tryz.func142, Tryz.ntmps142
        go_wp2
        go_ret2
        first | exact ⟨rfl, Gr.refl _⟩ | exact ⟨ret_sb hp.symm hf.symm, Gr.refl _⟩
      · have k3 : n < 0 := by omega
        go_enter Tryz.func142, Tryz.ntmps142
        go_wp2
        go_ret2
        first | exact ⟨rfl, Gr.refl _⟩ | exact ⟨ret_sb hp.symm hf.symm, Gr.refl _⟩
end Go.Proofs.YtignfbdgpgidpaaGreatDoor
/- The document's answers of layer 19: Put. -/
namespace Go.Proofs.YtignfbdgpgidpaaGreatDoor
open Go.RowKit FsPlain CrcPlain OctPlain MnPlain
set_option linter.unusedVariables false
set_option linter.unusedSimpArgs false
set_option maxRecDepth 20000
namespace MnPlain
def hdL (m : Mn) : List UInt8 := [77, 65, 78, 49] ++ (beL 2 m.stage.toNat ++ (beL 2 m.pass.toNat ++ beL 1 m.files.length))
theorem hd_all (m : Mn) : mnL m = hdL m ++ (m.files.map flL).flatten := by
  unfold mnL hdL
  simp only [List.append_assoc]
theorem hd_length (m : Mn) : (hdL m).length = 9 := by
  unfold hdL
  simp only [List.length_append, beL_length, List.length_cons, List.length_nil]
theorem put_be {n k : Nat} (hk : 1 ≤ k ∧ k ≤ 8) (hn : n < 256 ^ k) : putS (n : Int) (k : Int) = bs (beL k n) := by
  have : fitsB (n : Int) (k : Int) = true := by
    unfold fitsB
    rw [decide_eq_true_iff, Int.toNat_natCast]
    refine ⟨by omega, by omega, ?_⟩
    exact_mod_cast hn
  unfold putS
  rw [if_pos this, Int.toNat_natCast, Int.toNat_natCast]
theorem put_is {n : Int} {k : Nat} (hk : 1 ≤ k ∧ k ≤ 8) (h0 : 0 ≤ n) (hn : n.toNat < 256 ^ k) : putS n (k : Int) = bs (beL k n.toNat) := by
  have := put_be hk hn
  rwa [Int.toNat_of_nonneg h0] at this
end MnPlain
def PtAt (m : Mn) (w1 : World) (vs vi : Value) (wr : World) : Prop := ∃ i : Nat, i ≤ m.files.length ∧ vi = .int .i64 (i : Int) ∧ vs = .string (bs (hdL m ++ ((m.files.take i).map flL).flatten)) ∧ Gr w1 wr
theorem flatl_le {l : List Fl} (h : ∀ f ∈ l, f.name.size ≤ 24) : ((l.map flL).flatten).length ≤ 38 * l.length := by
  induction l with
  | nil => simp
  | cons f t ih =>
    have h1 := h f (by simp)
    have h2 := ih fun g hg => h g (by simp [hg])
    simp only [List.map_cons, List.flatten_cons, List.length_append, List.length_cons, flL_length]
    omega
end Go.Proofs.YtignfbdgpgidpaaGreatDoor
/- Slices of whole numbers, and slices of these, whoever made them; rows of one's own of either. -/
namespace Go.Proofs.YtignfbdgpgidpaaGreatDoor
open Go.RowKit
set_option linter.unusedVariables false
set_option linter.unusedSimpArgs false
set_option maxRecDepth 20000
theorem gr_grownN {A B : World} (h : Gr A B) : A.grownBy B none := ⟨h.1, h.2, h.3, h.size, fun k hk _ => h.block k hk⟩
theorem add_zero (g j : Nat) : (⟨g, 0, none⟩ : Addr).add j = ⟨g, j, none⟩ := by by_cases h : j = 0 <;> simp [Addr.add, h]
def ints (l : List Int) : List Value := l.map (Value.int .i64)
def VRow (w : World) (b off : Nat) (vs : List Value) : Prop := b < w.heap.size ∧ ∀ j x, vs[j]? = some x → w.cell? ⟨b, off + j, none⟩ = some x
def LiesI (w : World) (v : Value) (l : List Int) : Prop := ∃ a c, v = .slice a l.length c ∧ l.length ≤ c ∧ (l = [] ∨ ∃ b off, a = some ⟨b, off, none⟩ ∧ VRow w b off (ints l))
theorem LiesI.kept {w w' : World} {row : Option Nat} {v : Value} {l : List Int} (h : LiesI w v l) (hg : w.grownBy w' row) (hne : ∀ a n c, v = .slice (some a) n c → row ≠ some a.block) : LiesI w' v l := by
  obtain ⟨a, c, rfl, hc, h⟩ := h
  refine ⟨a, c, rfl, hc, h.imp id ?_⟩
  rintro ⟨b, off, rfl, hr⟩
  have hb := hne _ _ _ rfl
  refine ⟨b, off, rfl, Nat.lt_of_lt_of_le hr.1 hg.size, fun j x hj => ?_⟩
  exact hg.cell (hr.2 j x hj) (fun e => hb e.symm)
theorem ownsRow_gr {base : Nat} {E : TypeId} {z : Nat} {w w' : World} {v : Value} {n : Nat} {xs : List Value} (h : w.ownsRow base E z v n xs) (g : Gr w w') : w'.ownsRow base E z v n xs := h.kept (gr_grownN g) (by cases hv : v.ownBlock <;> simp)
end Go.Proofs.YtignfbdgpgidpaaGreatDoor
/- Rows of files of one's own. -/
namespace Go.Proofs.YtignfbdgpgidpaaGreatDoor
open Go.RowKit FsPlain MnPlain
set_option linter.unusedVariables false
set_option linter.unusedSimpArgs false
set_option maxRecDepth 20000
def flc (x : Fl) : List Value := [.string x.name, .int .i64 x.size, .int .i64 x.count, .int .u32 x.sum]
def fls : List Fl → List Value
  | [] => []
  | x :: l => .string x.name :: .int .i64 x.size :: .int .i64 x.count :: .int .u32 x.sum :: fls l
theorem fls_snoc : ∀ (l : List Fl) (x : Fl), fls (l ++ [x]) = fls l ++ flc x
  | [], x => rfl
  | y :: l, x => by simp only [fls, List.cons_append, fls_snoc l x]
theorem fls_at : ∀ {l : List Fl} {j : Nat} {x : Fl}, l[j]? = some x → (fls l)[j * 4]? = some (.string x.name) ∧ (fls l)[j * 4 + 1]? = some (.int .i64 x.size) ∧ (fls l)[j * 4 + 2]? = some (.int .i64 x.count) ∧ (fls l)[j * 4 + 3]? = some (.int .u32 x.sum)
  | [], j, x, h => by simp at h
  | y :: l, 0, x, h => by
    obtain rfl : y = x := by simpa using h
    exact ⟨rfl, rfl, rfl, rfl⟩
  | y :: l, j + 1, x, h => by
    have h' : l[j]? = some x := by simpa using h
    have e : (j + 1) * 4 = j * 4 + 1 + 1 + 1 + 1 := by omega
    obtain ⟨h1, h2, h3, h4⟩ := fls_at h'
    rw [e]
    exact ⟨h1, h2, h3, h4⟩
theorem flc_one (x : Fl) : ∀ u ∈ flc x, u.oneCell' = true := by
  intro u h
  simp only [flc, List.mem_cons, List.not_mem_nil, or_false] at h
  rcases h with rfl | rfl | rfl | rfl <;> rfl
theorem infoFl : (Tryz.prog.info? 48).map (fun i => (i.zero, i.size, i.bytes)) = some (some (.agg #[.string ⟨#[]⟩, .int .i64 0, .int .i64 0, .int .u32 0]), 4, 40) := by kernel_rfl
theorem liesFl_own {w : World} {B : Nat} {v : Value} {l : List Fl} (h : w.ownsRow B 48 4 v l.length (fls l)) : LiesFl w v l := by
  have hc := @World.ownsRow.cells w _ _ _ _ _ _ h
  have hl := h.lt
  obtain ⟨_, p⟩ := h
  rcases p with ⟨rfl, z⟩ | ⟨g, cap, cur, rfl, _, _, hn, _⟩
  · exact ⟨none, 0, by rw [z], by omega, .inl (List.eq_nil_of_length_eq_zero z)⟩
  · refine ⟨_, cap, rfl, hn, .inr ⟨g, 0, rfl, (hl g rfl).2, fun j x hj => ?_⟩⟩
    have K : ∀ (k : Nat) (u : Value), (fls l)[k]? = some u → w.cell? ⟨g, k, none⟩ = some u := fun k u hk => by
      have := hc (g := g) rfl k u hk
      have e : (⟨g, 0, none⟩ : Addr).add k = ⟨g, k, none⟩ := by
        cases k with
        | zero => rfl
        | succ k => simp [Addr.add]
      rwa [e] at this
    obtain ⟨a1, a2, a3, a4⟩ := fls_at hj
    rw [Nat.zero_add]
    exact ⟨K _ _ a1, K _ _ a2, K _ _ a3, K _ _ a4⟩
end Go.Proofs.YtignfbdgpgidpaaGreatDoor
/- A region that draws its order, walked once, in the order of its text: where each of its operations hands out one value in whatever world holds S, and leaves such a world (a copy, a load of a cell that stays; a call that makes memory), all its orders come to one. -/
namespace Go.Proofs.YtignfbdgpgidpaaGreatDoor
open Go.RowKit
set_option linter.unusedVariables false
set_option linter.unusedSimpArgs false
section
variable {P : Program} {ops : Array Oper} {Q : Exit → Act → World → Prop} {md : Region.Mode} {S : World → Prop}
end
end Go.Proofs.YtignfbdgpgidpaaGreatDoor
/- A region that draws its order, walked once in the order of its text, some of whose operations write (a slice made, an append, a store at the end): these stand in one forced order; all others read what the writing ones ahead of the last leave as it is. -/
namespace Go.Proofs.YtignfbdgpgidpaaGreatDoor
open Go.RowKit
set_option linter.unusedVariables false
set_option linter.unusedSimpArgs false
section
variable {P : Program} {ops : Array Oper} {Q : Exit → Act → World → Prop} {md : Region.Mode} {S : World → Prop} {M : List Nat} {W : Nat → World}
end
end Go.Proofs.YtignfbdgpgidpaaGreatDoor
/- The document's answers of layer 19: With. -/
namespace Go.Proofs.YtignfbdgpgidpaaGreatDoor
open Go.RowKit FsPlain MnPlain
set_option linter.unusedVariables false
set_option linter.unusedSimpArgs false
set_option maxRecDepth 20000
theorem mn_results {fn : Func} {p : Tmp} (hfn : fn.results = #[.cell p 27]) {tmps : Array Value} {o : Nat} {x y z : Value} {w : World} (hp : tmps.getD p undef = .pointer (some ⟨o, 0, none⟩)) (hx : x.oneCell' = true) (hy : y.oneCell' = true) (hz : z.oneCell' = true) (hb : w.heap[o]? = some (.cells #[x, y, z] 27 (0, 0))) :
    (results fn tmps).run Tryz.prog w = .ok (.agg #[x, y, z]) w := by
  have c0 : w.cell? ⟨o, 0, none⟩ = some x := by rw [cells_at hb]; rfl
  have c1 : w.cell? ⟨o, 1, none⟩ = some y := by rw [cells_at hb]; rfl
  have c2 : w.cell? ⟨o, 2, none⟩ = some z := by rw [cells_at hb]; rfl
  have hp2 := hp
  rw [Array.getD_eq_getD_getElem?] at hp2
  simp [results, hfn, hp2, go_sem, c0, c1, c2]
end Go.Proofs.YtignfbdgpgidpaaGreatDoor
/- Contracts of the document's Get. -/
namespace Go.Proofs.YtignfbdgpgidpaaGreatDoor
open Go.RowKit OctPlain
set_option linter.unusedVariables false
set_option linter.unusedSimpArgs false
set_option maxRecDepth 20000
end Go.Proofs.YtignfbdgpgidpaaGreatDoor
