/- In one text: MnPlain, CrcMore, CrcRmore, Conv, CrcClose. -/
import Derived.Test.YtckmciafonnohaaGreatP14
import Derived.Test.YtckmciafonnohaaGreatP00
import Derived.Laws.BitsAllLaws
import Derived.Laws.IdiomStrings
/- Plain facts of a manifest: what may be, its bytes; two of the same bytes are one. -/
namespace Go.Proofs.YtckmciafonnohaaGreat
open Go.RowKit FsPlain CrcPlain OctPlain
set_option linter.unusedVariables false
set_option linter.unusedSimpArgs false
namespace MnPlain
/-- A file of a manifest. -/
structure Fl where
  name : ByteArray
  size : Int
  count : Int
  sum : Int
/-- A manifest. -/
structure Mn where
  stage : Int
  pass : Int
  files : List Fl
def flB (f : Fl) : Bool := rightB f.name.data.toList && decide ((1 ≤ f.size ∧ f.size ≤ 64) ∧ 0 ≤ f.count ∧ f.count ≤ 4611686018427387904)
/-- No two of one name (each against those ahead of it). -/
def newB : List Fl → List Fl → Bool
  | _, [] => true
  | l, f :: t => flB f && (l.all fun g => decide (g.name ≠ f.name)) && newB (l ++ [f]) t
def mnB (m : Mn) : Bool := decide ((1 ≤ m.stage ∧ m.stage ≤ 7) ∧ (0 ≤ m.pass ∧ m.pass ≤ 1000) ∧ m.files.length ≤ 16) && newB [] m.files
/-- A file's bytes. -/
def flL (f : Fl) : List UInt8 := beL 1 f.name.size ++ (f.name.data.toList ++ (beL 1 f.size.toNat ++ (beL 8 f.count.toNat ++ beL 4 f.sum.toNat)))
/-- A manifest's bytes, ahead of its check. -/
def mnL (m : Mn) : List UInt8 := [77, 65, 78, 49] ++ (beL 2 m.stage.toNat ++ (beL 2 m.pass.toNat ++ (beL 1 m.files.length ++ (m.files.map flL).flatten)))
theorem be_inj {k a b : Nat} (ha : a < 256 ^ k) (hb : b < 256 ^ k) (h : beL k a = beL k b) : a = b := by
  rw [← num_beL k a ha, ← num_beL k b hb, h]
theorem app_len {a b c d : List UInt8} (hl : a.length = b.length) (h : a ++ c = b ++ d) : a = b ∧ c = d := List.append_inj h hl
theorem be_app {k a b : Nat} {c d : List UInt8} (ha : a < 256 ^ k) (hb : b < 256 ^ k) (h : beL k a ++ c = beL k b ++ d) : a = b ∧ c = d := by
  obtain ⟨h1, h2⟩ := app_len (by rw [beL_length, beL_length]) h
  exact ⟨be_inj ha hb h1, h2⟩
/-- What the numbers of a file are between. -/
def flI (f : Fl) : Prop := f.name.size < 256 ∧ (0 ≤ f.size ∧ f.size < 256) ∧ (0 ≤ f.count ∧ f.count < 18446744073709551616) ∧ 0 ≤ f.sum ∧ f.sum < 4294967296
theorem fl_app {f g : Fl} {c d : List UInt8} (hf : flI f) (hg : flI g) (h : flL f ++ c = flL g ++ d) : f = g ∧ c = d := by
  obtain ⟨f1, ⟨f2, f3⟩, ⟨f4, f5⟩, f6, f7⟩ := hf
  obtain ⟨g1, ⟨g2, g3⟩, ⟨g4, g5⟩, g6, g7⟩ := hg
  unfold flL at h
  simp only [List.append_assoc] at h
  obtain ⟨h1, h⟩ := be_app (by rw [Nat.pow_one]; exact f1) (by rw [Nat.pow_one]; exact g1) h
  obtain ⟨h2, h⟩ := app_len (show f.name.data.toList.length = g.name.data.toList.length from h1) h
  obtain ⟨h3, h⟩ := be_app (by omega) (by omega) h
  obtain ⟨h4, h⟩ := be_app (by omega) (by omega) h
  obtain ⟨h5, h⟩ := be_app (by omega) (by omega) h
  refine ⟨?_, h⟩
  have q1 : f.name = g.name := ByteArray.ext (Array.toList_inj.1 h2)
  have q2 : f.size = g.size := by omega
  have q3 : f.count = g.count := by omega
  have q4 : f.sum = g.sum := by omega
  cases f; cases g
  simp only at q1 q2 q3 q4
  rw [q1, q2, q3, q4]
theorem fls_inj : ∀ {l m : List Fl} {c d : List UInt8}, l.length = m.length → (∀ f ∈ l, flI f) → (∀ f ∈ m, flI f) → (l.map flL).flatten ++ c = (m.map flL).flatten ++ d → l = m ∧ c = d
  | [], [], c, d, _, _, _, h => ⟨rfl, by simpa using h⟩
  | [], g :: m, c, d, hl, _, _, _ => by simp at hl
  | f :: l, [], c, d, hl, _, _, _ => by simp at hl
  | f :: l, g :: m, c, d, hl, hf, hg, h => by
    simp only [List.map_cons, List.flatten_cons, List.append_assoc] at h
    obtain ⟨e1, h2⟩ := fl_app (hf f (by simp)) (hg g (by simp)) h
    obtain ⟨e2, h3⟩ := fls_inj (by simpa using hl) (fun x hx => hf x (by simp [hx])) (fun x hx => hg x (by simp [hx])) h2
    exact ⟨by rw [e1, e2], h3⟩
theorem mnL_inj {a b : Mn} (ha : mnB a = true) (hb : mnB b = true) (ia : ∀ f ∈ a.files, flI f) (ib : ∀ f ∈ b.files, flI f) (h : mnL a = mnL b) : a = b := by
  unfold mnB at ha hb
  simp only [Bool.and_eq_true, decide_eq_true_eq] at ha hb
  obtain ⟨⟨⟨a1, a2⟩, ⟨a3, a4⟩, a5⟩, _⟩ := ha
  obtain ⟨⟨⟨b1, b2⟩, ⟨b3, b4⟩, b5⟩, _⟩ := hb
  unfold mnL at h
  have h := List.append_cancel_left h
  obtain ⟨h1, h⟩ := be_app (by omega) (by omega) h
  obtain ⟨h2, h⟩ := be_app (by omega) (by omega) h
  obtain ⟨h3, h⟩ := be_app (by omega) (by omega) h
  obtain ⟨h4, _⟩ := fls_inj (c := []) (d := []) h3 ia ib (by simpa using h)
  have q1 : a.stage = b.stage := by omega
  have q2 : a.pass = b.pass := by omega
  cases a; cases b
  simp only at q1 q2 h4
  rw [q1, q2, h4]
end MnPlain
end Go.Proofs.YtckmciafonnohaaGreat
/- Contracts of the sum of bytes, half a byte at once by a table: each by a walk of its text. -/
namespace Go.Proofs.YtckmciafonnohaaGreat
open Go.RowKit CrcPlain
set_option linter.unusedVariables false
set_option linter.unusedSimpArgs false
set_option maxRecDepth 20000
def halves : Array Value := #[.int .u32 0, .int .u32 498536548, .int .u32 997073096, .int .u32 651767980, .int .u32 1994146192, .int .u32 1802195444, .int .u32 1303535960, .int .u32 1342533948, .int .u32 3988292384, .int .u32 4027552580, .int .u32 3604390888, .int .u32 3412177804, .int .u32 2607071920, .int .u32 2262029012, .int .u32 2685067896, .int .u32 3183342108]
set_option maxHeartbeats 1000000 in
theorem halves_c (w : World) : Calls Tryz.prog 104 #[] w fun e w' => e = .returned (.agg halves) ∧ Gr w w' := by
  go_enter Tryz.func104, Tryz.ntmps104
  go_wp2_with fail
  refine bodyPost_ret (v := .agg halves) (by simp [results, Tryz.results104, go_sem, halves]) rfl ⟨rfl, Gr.of (by go_grown)⟩
theorem xnot (m : Nat) (h : m < 4294967296) : bits .xor .u32 IntKind.u32.max (m : Int) = ((m ^^^ 4294967295 : Nat) : Int) := by
  have e : IntKind.u32.max = ((4294967295 : Nat) : Int) := rfl
  rw [e, u32_xor_nat _ _ (by decide) h, Nat.xor_comm]
theorem and15 (m : Nat) (h : m < 4294967296) : bits .and .u32 (m : Int) 15 = ((m % 16 : Nat) : Int) := by
  have e := u32_and_nat m 15 h (by decide)
  rw [Nat.and_two_pow_sub_one_eq_mod m 4] at e
  exact e
theorem halves_cell (u W : World) (h : W = u.alloc (.cells halves 129)) : u.heap.size < W.heap.size ∧ ∀ j : Nat, j < 16 → W.cell? ⟨u.heap.size, j, none⟩ = some (.int .u32 (half j : Nat)) := by
  subst h
  refine ⟨by simp, ?_⟩
  intro j hj
  have : j = 0 ∨ j = 1 ∨ j = 2 ∨ j = 3 ∨ j = 4 ∨ j = 5 ∨ j = 6 ∨ j = 7 ∨ j = 8 ∨ j = 9 ∨ j = 10 ∨ j = 11 ∨ j = 12 ∨ j = 13 ∨ j = 14 ∨ j = 15 := by omega
  rcases this with rfl | rfl | rfl | rfl | rfl | rfl | rfl | rfl | rfl | rfl | rfl | rfl | rfl | rfl | rfl | rfl <;> (go_simp; rfl)
theorem half_round (m : Nat) (h : m < 4294967296) : ∃ j v n : Nat, j < 16 ∧ v = half j ∧ n < 4294967296 ∧ bits .and .u32 (m : Int) 15 = (j : Int) ∧ bits .xor .u32 ((m : Int) / 16) (v : Int) = (n : Int) ∧ n = sts 4 m := by
  have hj : m % 16 < 16 := Nat.mod_lt _ (by decide)
  have hv := half_lt _ hj
  have hd : m / 16 < 4294967296 := by omega
  have e : ((m / 16 : Nat) : Int) = (m : Int) / 16 := by omega
  refine ⟨m % 16, half (m % 16), m / 16 ^^^ half (m % 16), hj, rfl, xor_lt hd hv, and15 m h, ?_, half_step m⟩
  rw [← e]
  exact u32_xor_nat _ _ hd hv
theorem byte_round (m : Nat) (h : m < 4294967296) (b : UInt8) : ∃ n : Nat, n < 4294967296 ∧ bits .xor .u32 (m : Int) ((b.toNat : Int) % 4294967296) = (n : Int) ∧ n = m ^^^ b.toNat := by
  have hb := byte_lt b
  have e : (b.toNat : Int) % 4294967296 = (b.toNat : Int) := by omega
  refine ⟨m ^^^ b.toNat, xor_lt h hb, ?_, rfl⟩
  rw [e]
  exact u32_xor_nat _ _ h hb
theorem take_snoc (s : ByteArray) (k : Nat) (h : k < s.size) : s.data.toList.take (k + 1) = s.data.toList.take k ++ [s[k]] := by
  rw [List.take_succ_eq_append_getElem (by simpa using h)]; rfl
set_option maxHeartbeats 1000000 in
theorem more_c (sum : Nat) (hsum : sum < 4294967296) (s : ByteArray) (hz : s.size ≤ 1000) (w : World) :
    Calls Tryz.prog 94 #[.int .u32 (sum : Int), .string s] w fun e w' => e = .returned (.int .u32 (more sum s.data.toList : Nat)) ∧ Gr w w' := by
  have hr0 := xor_lt hsum (b := 4294967295) (by decide)
  have hx0 := xnot sum hsum
  unfold more
  generalize sum ^^^ 4294967295 = r0 at hr0 hx0 ⊢
  go_enter Tryz.func94, Tryz.ntmps94
  go_wp2_with fail
  refine (halves_c _).mono ?_; rintro e u ⟨rfl, g⟩
  unfold halves
  go_wp2_with fail
  obtain ⟨W, hW⟩ : ∃ W, W = u.alloc (.cells halves 129) := ⟨_, rfl⟩
  unfold halves at hW
  rw [← hW]
  obtain ⟨hsz, hcell⟩ := halves_cell u W hW
  clear hx0
  have HW := Lib.hid hW
  have HC := Lib.hid hcell
  clear hW hcell
  go_loop [6, 13] (fun n i => ∃ k : Nat, k ≤ s.size ∧ i = .int .i64 k ∧ n = .int .u32 (reg r0 (s.data.toList.take k) : Nat)) (fun _ i => s.size - (intOf i).toNat)
  case atStart => exact ⟨0, Nat.zero_le _, rfl, rfl⟩
  case round =>
    obtain ⟨k, hk, rfl, rfl⟩ := hrel
    have hl := reg_lt hr0 (s.data.toList.take k)
    have hls := reg_lt hr0 s.data.toList
    by_cases hlt : k < s.size
    · obtain ⟨m, hm⟩ : ∃ m, m = reg r0 (s.data.toList.take k) := ⟨_, rfl⟩
      rw [← hm] at hl ⊢
      obtain ⟨m1, l1, q1, p1⟩ := byte_round m hl s[k]
      obtain ⟨j1, v1, m2, lj1, pv1, l2, q2, q3, p2⟩ := half_round m1 l1
      obtain ⟨j2, v2, m3, lj2, pv2, l3, q4, q5, p3⟩ := half_round m2 l2
      have c1 := HC.out j1 lj1
      have c2 := HC.out j2 lj2
      rw [← pv1] at c1
      rw [← pv2] at c2
      have hend : reg r0 (s.data.toList.take (k + 1)) = m3 := by rw [take_snoc s k hlt, reg_snoc, ← hm, ← p1, two_halves, ← p2, ← p3]
      have HE := Lib.hid hend
      clear hm p1 pv1 p2 pv2 p3 hend
      go_wp2_with fail
      go_round
      case rel => exact ⟨k + 1, by omega, by go_num, by rw [HE.out]⟩
      case measure => simp [intOf]; omega
    · obtain rfl : k = s.size := by omega
      rw [List.take_of_length_le (by simp)] at hl ⊢
      have hx1 := xnot _ hls
      have HX := Lib.hid hx1
      clear hx1
      go_wp2_with fail
      go_ret
      exact ⟨ret_u (HX.out), Gr.trans g (Gr.of (by rw [HW.out]; go_grown))⟩
end Go.Proofs.YtckmciafonnohaaGreat
/- The contract of the document's own sum, bit by bit: by a walk of its text. -/
namespace Go.Proofs.YtckmciafonnohaaGreat
open Go.RowKit CrcPlain
set_option linter.unusedVariables false
set_option linter.unusedSimpArgs false
set_option maxRecDepth 20000
theorem xnot2 (m : Nat) (h : m < 4294967296) : bits .xor .u32 (m : Int) 4294967295 = ((m ^^^ 4294967295 : Nat) : Int) := u32_xor_nat m 4294967295 h (by decide)
theorem bit_odd (m : Nat) (h : m < 4294967296) (ho : m % 2 = 1) : bits .xor .u32 ((m : Int) / 2) 3988292384 = ((st m : Nat) : Int) := by
  have e : ((m / 2 : Nat) : Int) = (m : Int) / 2 := by omega
  rw [← e]
  have := u32_xor_nat (m / 2) 3988292384 (by omega) (by decide)
  unfold st; rw [ho, Nat.one_mul]; exact this
theorem bit_even (m : Nat) (ho : m % 2 = 0) : ((m : Int) / 2) = ((st m : Nat) : Int) := by
  have e : ((m / 2 : Nat) : Int) = (m : Int) / 2 := by omega
  rw [← e]; unfold st; rw [ho, Nat.zero_mul, Nat.xor_zero]
theorem sts_next (j m : Nat) : sts (j + 1) m = st (sts j m) := sts_add j 1 m
set_option maxHeartbeats 1000000 in
theorem rmore_c (sum : Nat) (hsum : sum < 4294967296) (s : ByteArray) (hz : s.size ≤ 1000) (w : World) :
    Calls Tryz.prog 95 #[.int .u32 (sum : Int), .string s] w fun e w' => e = .returned (.int .u32 (more sum s.data.toList : Nat)) ∧ w = w' := by
  have hr0 := xor_lt hsum (b := 4294967295) (by decide)
  have hx0 := xnot2 sum hsum
  unfold more
  generalize sum ^^^ 4294967295 = r0 at hr0 hx0 ⊢
  go_enter Tryz.func95, Tryz.ntmps95
  go_wp2_with fail
  clear hx0
  go_loop [5, 6] (fun n i => ∃ k : Nat, k ≤ s.size ∧ i = .int .i64 k ∧ n = .int .u32 (reg r0 (s.data.toList.take k) : Nat)) (fun _ i => s.size - (intOf i).toNat)
  case atStart => exact ⟨0, Nat.zero_le _, rfl, rfl⟩
  case round =>
    obtain ⟨k, hk, rfl, rfl⟩ := hrel
    have hl := reg_lt hr0 (s.data.toList.take k)
    have hls := reg_lt hr0 s.data.toList
    by_cases hlt : k < s.size
    · obtain ⟨m, hm⟩ : ∃ m, m = reg r0 (s.data.toList.take k) := ⟨_, rfl⟩
      rw [← hm] at hl ⊢
      obtain ⟨m1, l1, q1, p1⟩ := byte_round m hl s[k]
      have hend : reg r0 (s.data.toList.take (k + 1)) = sts 8 m1 := by rw [take_snoc s k hlt, reg_snoc, ← hm, ← p1]
      have HE := Lib.hid hend
      clear hm p1 hend
      go_wp2_with fail
      go_loop [5, 7] (fun n i => ∃ j : Nat, j ≤ 8 ∧ i = .int .i64 j ∧ n = .int .u32 (sts j m1 : Nat)) (fun _ i => 8 - (intOf i).toNat)
      case atStart => exact ⟨0, Nat.zero_le _, rfl, rfl⟩
      case round =>
        obtain ⟨j, hj, rfl, rfl⟩ := hrel
        have ln := sts_lt j l1
        have hsn := sts_next j m1
        obtain ⟨n, hn⟩ : ∃ n, n = sts j m1 := ⟨_, rfl⟩
        rw [← hn] at ln hsn ⊢
        have HN := Lib.hid hn
        have HS := Lib.hid hsn
        clear hn hsn
        by_cases hj8 : j < 8
        · by_cases ho : n % 2 = 1
          · have q2 := bit_odd n ln ho
            have q3 : (n : Int) % 2 = 1 := by omega
            go_wp2_with fail
            go_round
            case rel => exact ⟨j + 1, by omega, by go_num, by rw [HS.out]⟩
            case measure => simp [intOf]; omega
          · have q2 := bit_even n (by omega)
            have q3 : (n : Int) % 2 = 0 := by omega
            go_wp2_with fail
            go_round
            case rel => exact ⟨j + 1, by omega, by go_num, by rw [HS.out]⟩
            case measure => simp [intOf]; omega
        · obtain rfl : j = 8 := by omega
          go_wp2_with fail
          go_round
          case rel => exact ⟨k + 1, by omega, by go_num, by rw [HE.out, HN.out]⟩
          case measure => simp [intOf]; omega
    · obtain rfl : k = s.size := by omega
      rw [List.take_of_length_le (by simp)] at hl ⊢
      have hx1 := xnot2 _ hls
      have HX := Lib.hid hx1
      clear hx1
      go_wp2_with fail
      go_ret
      exact ⟨ret_u (HX.out), rfl⟩
end Go.Proofs.YtckmciafonnohaaGreat
/- A slice of bytes as a string, by its cells. -/
namespace Go.Proofs.YtckmciafonnohaaGreat
open Go.RowKit
set_option linter.unusedVariables false
set_option linter.unusedSimpArgs false
set_option maxRecDepth 20000
theorem conv_list (W : World) (a : Addr) (k : Nat) (l : List UInt8) (hl : l.length = k) (hc : ∀ j x, l[j]? = some x → W.cell? (a.add j) = some (.int .u8 (x.toNat : Int))) :
    (convert 60 9 (.slice (some a) k k)).run Tryz.prog W = .ok (.string (bs l)) W := by
  subst hl
  exact run_convert_bytes_back (P := Tryz.prog) W 60 9 5 a l.length l Tryz.underlying60 Tryz.underlying5 Tryz.underlying9 (fun j hj => hc j l[j] (by simp))
end Go.Proofs.YtckmciafonnohaaGreat
/- Contracts of Of, the bytes of a sum, Close and Open, and of the document's own answers: by walks of their texts. -/
namespace Go.Proofs.YtckmciafonnohaaGreat
open Go.RowKit CrcPlain
set_option linter.unusedVariables false
set_option linter.unusedSimpArgs false
set_option maxRecDepth 20000
theorem conv4 (T : TypeId) (n : Nat) (hn : n < 4294967296) (u : World) :
    (convert 60 9 (.slice (some ⟨u.heap.size, 0, none⟩) 4 4)).run Tryz.prog (u.alloc (.cells #[Value.int IntKind.u8 ((n : Int) % 256), Value.int IntKind.u8 ((n : Int) / 256 % 256), Value.int IntKind.u8 ((n : Int) / 65536 % 256), Value.int IntKind.u8 ((n : Int) / 16777216)] T)) =
      .ok (.string (bs (tl n))) (u.alloc (.cells #[Value.int IntKind.u8 ((n : Int) % 256), Value.int IntKind.u8 ((n : Int) / 256 % 256), Value.int IntKind.u8 ((n : Int) / 65536 % 256), Value.int IntKind.u8 ((n : Int) / 16777216)] T)) := by
  refine conv_list _ _ _ _ (tl_length n) ?_
  intro j x hx
  have hj : j < 4 := by
    have := (List.getElem?_eq_some_iff.1 hx).1
    rw [tl_length] at this; exact this
  have ea : Addr.add ⟨u.heap.size, 0, none⟩ j = ⟨u.heap.size, j, none⟩ := by by_cases h : j = 0 <;> simp [Addr.add, h]
  rw [ea, World.cell?_alloc_mark]
  have hj4 : j = 0 ∨ j = 1 ∨ j = 2 ∨ j = 3 := by omega
  rcases hj4 with rfl | rfl | rfl | rfl <;> (simp [tl] at hx; subst hx; simp; try omega)

set_option maxHeartbeats 1000000 in
theorem of_c (s : ByteArray) (hz : s.size ≤ 1000) (w : World) :
    Calls Tryz.prog 82 #[.string s] w fun e w' => e = .returned (.int .u32 (more 0 s.data.toList : Nat)) ∧ Gr w w' := by
  go_enter Tryz.func82, Tryz.ntmps82
  go_wp2_with fail
  refine (more_c 0 (by decide) s hz _).mono ?_; rintro e u ⟨rfl, g⟩
  go_wp2_with fail
  go_ret
  exact ⟨rfl, g⟩
set_option maxHeartbeats 1000000 in
theorem rof_c (s : ByteArray) (hz : s.size ≤ 1000) (w : World) :
    Calls Tryz.prog 84 #[.string s] w fun e w' => e = .returned (.int .u32 (more 0 s.data.toList : Nat)) ∧ w = w' := by
  go_enter Tryz.func84, Tryz.ntmps84
  go_wp2_with fail
  refine (rmore_c 0 (by decide) s hz _).mono ?_; rintro e u ⟨rfl, rfl⟩
  go_wp2_with fail
  go_ret
  exact ⟨rfl, rfl⟩
set_option maxHeartbeats 1000000 in
theorem tail_c (n : Nat) (hn : n < 4294967296) (w : World) :
    Calls Tryz.prog 81 #[.int .u32 (n : Int)] w fun e w' => e = .returned (.string (bs (tl n))) ∧ Gr w w' := by
  have hc := conv4 118 n hn
  go_enter Tryz.func81, Tryz.ntmps81
  go_wp2_with fail
  go_rounds 5
  go_ret
  exact ⟨rfl, Gr.of (by go_grown)⟩
/-- Bytes that are closed by their sum. -/
def cl (s : ByteArray) : ByteArray := s ++ bs (tl (more 0 s.data.toList))
theorem cl_size (s : ByteArray) : (cl s).size = s.size + 4 := by unfold cl; rw [ByteArray.size_append, bs_size, tl_length]
set_option maxHeartbeats 1000000 in
theorem close_c (s : ByteArray) (hz : s.size ≤ 1000) (w : World) :
    Calls Tryz.prog 55 #[.string s] w fun e w' => e = .returned (.string (cl s)) ∧ Gr w w' := by
  have h4 : (bs (tl (more 0 s.data.toList))).size = 4 := by rw [bs_size, tl_length]
  go_enter Tryz.func55, Tryz.ntmps55
  go_wp2_with fail
  refine (of_c s hz _).mono ?_; rintro e u ⟨rfl, g⟩
  go_wp2_with fail
  refine (tail_c _ (more_lt (by decide) _) _).mono ?_; rintro e u2 ⟨rfl, g2⟩
  go_wp2_with fail
  go_ret
  exact ⟨rfl, g.trans g2⟩
theorem and255 (m : Nat) (h : m < 4294967296) : bits .and .u32 (m : Int) 255 = (m : Int) % 256 := by
  have e := u32_and_nat m 255 h (by decide)
  rw [Nat.and_two_pow_sub_one_eq_mod m 8] at e
  rw [Int.natCast_emod] at e
  exact e
set_option maxHeartbeats 1000000 in
theorem rclose_c (s : ByteArray) (hz : s.size ≤ 1000) (w : World) :
    Calls Tryz.prog 67 #[.string s] w fun e w' => e = .returned (.string (cl s)) ∧ Gr w w' := by
  have h4 : (bs (tl (more 0 s.data.toList))).size = 4 := by rw [bs_size, tl_length]
  have hn := more_lt (sum := 0) (by decide) s.data.toList
  have R := fun w => rof_c s hz w
  unfold cl
  generalize more 0 s.data.toList = n at R hn h4 ⊢
  go_enter Tryz.func67, Tryz.ntmps67
  go_wp2_with fail
  refine (R _).mono ?_; rintro e u ⟨rfl, rfl⟩
  have hc := conv4 5 n hn
  have q1 := and255 n hn
  have q2 : bits .and .u32 ((n : Int) / 256) 255 = (n : Int) / 256 % 256 := by
    have := and255 (n / 256) (by omega); rw [Int.natCast_ediv] at this; exact this
  have q3 : bits .and .u32 ((n : Int) / 65536) 255 = (n : Int) / 65536 % 256 := by
    have := and255 (n / 65536) (by omega); rw [Int.natCast_ediv] at this; exact this
  go_wp2_with fail
  go_ret
  exact ⟨rfl, Gr.of (by go_grown)⟩
end Go.Proofs.YtckmciafonnohaaGreat
