/- In one text: ScBoth2, InfoEq, FramePlain, OctRows, OctSplit, Lies, Join, FramePut, FrameJoin, FrameEnd, FramePlain2. -/
import Derived.Test.YtignfbdgpgidpaaGreatDoorS33
import Derived.Deep.RegionHeld3
import Derived.Test.YtignfbdgpgidpaaGreatDoorS00
import Derived.Deep.DeepCutAuto
import Derived.Test.YtignfbdgpgidpaaGreatDoorS07
import Derived.Test.YtignfbdgpgidpaaGreatDoorS17
import Derived.Test.YtignfbdgpgidpaaGreatDoorS16
import Derived.Test.YtignfbdgpgidpaaGreatDoorS19
import Derived.Lib.Hide
import Derived.Lib.BufferWrite
import Derived.Lib.BufferRead
import Derived.Test.YtignfbdgpgidpaaGreatDoorS03
import Derived.RegionTactic
import Derived.BigRegion
import Derived.Shelf.Strings.OnBuilder
import Derived.Test.YtignfbdgpgidpaaGreatDoorS20
import Derived.IntWalk
import Derived.Test.YtignfbdgpgidpaaGreatDoorS18
/- For the laws of layer 22: both disks with the same files. -/
namespace Go.Proofs.YtignfbdgpgidpaaGreatDoor
open Go.RowKit FsPlain CrcPlain OctPlain MnPlain CmPlain ScPlain
set_option linter.unusedVariables false
set_option linter.unusedSimpArgs false
set_option maxRecDepth 20000
section
variable {p d : Nat} {s t : St} {M : List Asn} {w u : World}
theorem tw_createX_p (h : Pl20 p d s t M w u) (n : ByteArray) (hn : n.size ≤ 1000) (h1 : s.calls ≤ 1000000000000) : Calls Tryz.prog 19 #[.pointer (some ⟨p, 0, none⟩), .string n] u fun e w' => e = .returned (.int .i64 (createX s n.data.toList).2) ∧ Pl20 p d (createX s n.data.toList).1 t M w w' :=
  on_left (X := fun e _ => e = .returned (.int .i64 (createX s n.data.toList).2)) h fun B1 hp => d_createX p s n hn h1 u B1 hp
theorem tw_createX_d (h : Pl20 p d s t M w u) (n : ByteArray) (hn : n.size ≤ 1000) (h1 : t.calls ≤ 1000000000000) : Calls Tryz.prog 31 #[.pointer (some ⟨d, 0, none⟩), .string n] u fun e w' => e = .returned (.int .i64 (createX t n.data.toList).2) ∧ Pl20 p d s (createX t n.data.toList).1 M w w' :=
  on_right (X := fun e _ => e = .returned (.int .i64 (createX t n.data.toList).2)) h fun B1 hr => r_createX d t n hn h1 u B1 hr
theorem tw_appendX_p (h : Pl20 p d s t M w u) (n x : ByteArray) (hn : n.size ≤ 1000) (h1 : s.calls ≤ 1000000000000) (hx : x.size ≤ 1000000000) : Calls Tryz.prog 20 #[.pointer (some ⟨p, 0, none⟩), .string n, .string x] u fun e w' => e = .returned (.int .i64 (appendX s n.data.toList x.data.toList).2) ∧ Pl20 p d (appendX s n.data.toList x.data.toList).1 t M w w' :=
  on_left (X := fun e _ => e = .returned (.int .i64 (appendX s n.data.toList x.data.toList).2)) h fun B1 hp => d_appendX p s n x hn h1 hx u B1 hp
theorem tw_appendX_d (h : Pl20 p d s t M w u) (n x : ByteArray) (hn : n.size ≤ 1000) (h1 : t.calls ≤ 1000000000000) (hx : x.size ≤ 1000000000) : Calls Tryz.prog 32 #[.pointer (some ⟨d, 0, none⟩), .string n, .string x] u fun e w' => e = .returned (.int .i64 (appendX t n.data.toList x.data.toList).2) ∧ Pl20 p d s (appendX t n.data.toList x.data.toList).1 M w w' :=
  on_right (X := fun e _ => e = .returned (.int .i64 (appendX t n.data.toList x.data.toList).2)) h fun B1 hr => r_appendX d t n x hn h1 hx u B1 hr
end
theorem save_zero (s : St) : saveR s ⟨0, 0, []⟩ = (s, 1) := by unfold saveR; rw [if_neg (by decide)]
theorem both_snoc {l : List Fy} {i : Nat} (h : i < l.length) (s : St) : bothL s (l.take (i + 1)) = layX (bothL s (l.take i)) l[i] := by
  rw [List.take_succ_eq_append_getElem h]
  unfold bothL
  rw [List.foldl_append]
  rfl
def BoAt (p d : Nat) (l : List Fy) (w : World) (v : Value) (wr : World) : Prop := ∃ (i : Nat) (s : St), i ≤ l.length ∧ v = .int .i64 (i : Int) ∧ s = bothL (fresh 1048576) (l.take i) ∧ Pl20 p d s s [] w wr ∧ s.calls ≤ 2 * (i : Int)
def BothGot (l : List Fy) (w : World) (e : Ending) (w' : World) : Prop := ∃ p d, e = .returned (.tuple #[.pointer (some ⟨p, 0, none⟩), .pointer (some ⟨d, 0, none⟩), .bool true]) ∧ Pl20 p d (bothL (fresh 1048576) l) (bothL (fresh 1048576) l) [] w w'
theorem both_rt (l : List Fy) : RtS (bothL (fresh 1048576) l) ∧ (bothL (fresh 1048576) l).calls ≤ 2 * (l.length : Int) := by
  have : ∀ (l : List Fy) (s : St), RtS s → RtS (bothL s l) ∧ (bothL s l).calls ≤ s.calls + 2 * (l.length : Int) := by
    intro l
    induction l with
    | nil => intro s h; exact ⟨h, by show s.calls ≤ _; simp⟩
    | cons x r ih =>
      intro s h
      obtain ⟨h1, h2⟩ := ih (layX s x) (lay_rt x h)
      have := lay_calls s x
      refine ⟨h1, ?_⟩
      show (bothL (layX s x) r).calls ≤ _
      rw [List.length_cons]
      omega
  have h := this l (fresh 1048576) (fun f hf => by cases hf)
  refine ⟨h.1, ?_⟩
  have h0 : (fresh 1048576).calls = 0 := rfl
  omega
set_option maxHeartbeats 8000000 in
theorem both22_c {a : Option Addr} {c : Nat} {l : List Fy} (w : World) (h : LiesFy w (.slice a l.length c) l) (hf : fewFy l = true) :
    Calls Tryz.prog 8 #[.slice a l.length c, .agg #[.int .i64 0, .int .i64 0, .slice none 0 0]] w (BothGot l w) := by
  obtain ⟨h12, hall⟩ := few_fy hf
  have g0 := gr19 w (.cells #[.int .i64 0, .int .i64 0, .slice none 0 0] 27)
  have yW : (w.alloc (.cells #[.int .i64 0, .int .i64 0, .slice none 0 0] 27)).heap[w.heap.size]? = some (.cells #[.int .i64 0, .int .i64 0, .slice none 0 0] 27 (0, 0)) := heap_alloc_new w _
  obtain ⟨W, hW⟩ : ∃ W, w.alloc (.cells #[.int .i64 0, .int .i64 0, .slice none 0 0] 27) = W := ⟨_, rfl⟩
  have hWz : w.heap.size < W.heap.size := by rw [← hW]; simp
  rw [hW] at g0 yW
  have HW := Lib.hid hW
  have H := Lib.hid (fun u (g : Gr w u) => h.gr g)
  have HA := Lib.hid hall
  have G0 := Lib.hid g0
  have n12 : (l.length : Int) ≤ 12 := by omega
  have KM := Lib.hid (fun u (g : Gr W u) => mn_cells ((Below.block g _ hWz).trans yW))
  clear h hall g0 yW hW hWz h12 hf
  go_enter Tryz.func8, Tryz.ntmps8
  go_wp2_with fail
  rw [HW.out]
  refine (new_c 1048576 (by decide) (by decide) W).mono ?_; rintro e u2 ⟨p, B, rfl, hd, hg, hb⟩
  have DN := Lib.hid (tw_new W u2 hg (by decide) (by decide) (show DiskA p (fresh 1048576) u2 B from hd) ⟨Only.ofGr hg, fun b h => .inr (hb b h)⟩)
  clear hd hg hb
  go_wp2_with fail
  refine DN.out.mono ?_; rintro e u3 ⟨d, rfl, d3⟩
  have D3 := Lib.hid d3
  clear d3 DN
  go_wp2_with fail
  go_loopw [10] (fun v wr => BoAt p d l W v wr) (fun v _ => l.length - (intOf v).toNat)
  case atStart => exact ⟨0, fresh 1048576, Nat.zero_le _, rfl, rfl, D3.out, by decide⟩
  case round =>
    obtain ⟨i, s0, hi, rfl, hs0, dd, sc⟩ := hrel
    have D0 := Lib.hid dd
    have SC := Lib.hid sc
    have HS0 := Lib.hid hs0
    clear dd sc hs0 D3
    by_cases hlt : i < l.length
    · obtain ⟨_, hc, b, o, rfl, hb, k0, k1⟩ := fy_get (H.out wr (G0.out.trans D0.out.gr)) hlt
      have hx2 := HA.out _ (List.getElem_mem hlt)
      obtain ⟨x, hx⟩ : ∃ x, l[i] = x := ⟨_, rfl⟩
      rw [hx] at k0 k1 hx2
      have q1 : (i : Int) < (l.length : Int) := by omega
      have ic : (i : Int) ≤ 12 := by omega
      have hkw := k0
      have KC := Lib.hid (fun u (g : Gr w u) => by
        obtain ⟨_, _, b', o', e2, _, y0, y1⟩ := fy_get (H.out u g) hlt
        simp only [Option.some.injEq, Addr.mk.injEq] at e2
        obtain ⟨rfl, rfl, _⟩ := e2
        rw [hx] at y0 y1
        exact (⟨y0, y1⟩ : u.cell? ⟨b, o + i * 3, none⟩ = some (.string x.name) ∧ u.cell? ⟨b, o + i * 3 + 1, none⟩ = some (.string x.data)))
      obtain ⟨s1, hs1⟩ : ∃ r, createX s0 x.name.data.toList = r := ⟨_, rfl⟩
      obtain ⟨s2, hs2⟩ : ∃ r, appendX s1.1 x.name.data.toList x.data.data.toList = r := ⟨_, rfl⟩
      have c1 := calls_createX s0 x.name.data.toList
      have c2 := calls_appendX s1.1 x.name.data.toList x.data.data.toList
      rw [hs1] at c1
      rw [hs2] at c2
      have NX := Lib.hid (fun u (D : Pl20 p d s2.1 s2.1 [] W u) => (show BoAt p d l W (.int .i64 ((i : Int) + 1)) u from ⟨i + 1, s2.1, by omega, by rw [Int.natCast_add]; rfl, by
        rw [both_snoc hlt, hx, ← HS0.out]
        unfold layX
        rw [hs1, hs2], D, by have := SC.out; omega⟩))
      have CP := Lib.hid (fun u (D : Pl20 p d s0 s0 [] W u) => by
        have h := tw_createX_p D x.name (by omega) (by have := SC.out; omega)
        rw [hs1] at h
        exact h)
      have CD := Lib.hid (fun u (D : Pl20 p d s1.1 s0 [] W u) => by
        have h := tw_createX_d D x.name (by omega) (by have := SC.out; omega)
        rw [hs1] at h
        exact h)
      have AP := Lib.hid (fun u (D : Pl20 p d s1.1 s1.1 [] W u) => by
        have h := tw_appendX_p D x.name x.data (by omega) (by have := SC.out; omega) (by omega)
        rw [hs2] at h
        exact h)
      have AD := Lib.hid (fun u (D : Pl20 p d s2.1 s1.1 [] W u) => by
        have h := tw_appendX_d D x.name x.data (by omega) (by have := SC.out; omega) (by omega)
        rw [hs2] at h
        exact h)
      have D00 := Lib.hid (D0.out.on (show Gr wr wr.drew from Below.drew (Gr.refl _)))
      obtain ⟨kd0, kd1⟩ := KC.out _ (G0.out.trans D00.out.gr)
      have CP0 := Lib.hid (CP.out _ D00.out)
      clear hx hx2 c1 c2 hs1 hs2 hkw k0 k1 hlt hi CP D0 hb
      go_wp2_with fail
      go_region_held3 (fun u => u.cell? ⟨b, o + i * 3, none⟩ = some (.string x.name) ∧ u.cell? ⟨b, o + i * 3 + 1, none⟩ = some (.string x.data)) (first | assumption | exact ⟨by assumption, by assumption⟩ | go_keep)
        (first
          | (go_at_call 19; (with_reducible refine (CP0.out).mono ?_); rintro e t1 ⟨rfl, d13⟩; have D13 := Lib.hid (show Pl20 p d s1.1 s0 [] W t1 from d13); obtain ⟨ka0, ka1⟩ := KC.out _ (G0.out.trans d13.gr); clear d13)
          | (go_at_call 31; (with_reducible refine (CD.out _ D13.out).mono ?_); rintro e t2 ⟨rfl, d14⟩; have D14 := Lib.hid (show Pl20 p d s1.1 s1.1 [] W t2 from d14); obtain ⟨kb0, kb1⟩ := KC.out _ (G0.out.trans d14.gr); clear d14)
          | (go_at_call 20; (with_reducible refine (AP.out _ D14.out).mono ?_); rintro e t3 ⟨rfl, d15⟩; have D15 := Lib.hid (show Pl20 p d s2.1 s1.1 [] W t3 from d15); obtain ⟨kc0, kc1⟩ := KC.out _ (G0.out.trans d15.gr); clear d15)
          | (go_at_call 32; (with_reducible refine (AD.out _ D15.out).mono ?_); rintro e t4 ⟨rfl, d16⟩; have D16 := Lib.hid (show Pl20 p d s2.1 s2.1 [] W t4 from d16); obtain ⟨ke0, ke1⟩ := KC.out _ (G0.out.trans d16.gr); clear d16))
      have N2 := Lib.hid (NX.out _ D16.out)
      clear NX D16 D15 D14 D13 CD AP AD CP0 KC D00 kd0 kd1 ka0 ka1 kb0 kb1 kc0 kc1 ke0 ke1
      go_wp2_with fail
      refine ⟨N2.out, ?_⟩
      simp [intOf]; omega
    · obtain rfl : i = l.length := by omega
      have e0 := HS0.out
      rw [List.take_length] at e0
      have q1 : ¬ (l.length : Int) < (l.length : Int) := by omega
      have D00 := Lib.hid (D0.out.on (show Gr wr wr.drew from Below.drew (Gr.refl _)))
      have SP := Lib.hid (by
        have h := tw_save_p (m := ⟨0, 0, []⟩) D00.out (by have := SC.out; omega) (liesFl_nil W) (by unfold maxLen; simp) (fun f hf => by cases hf)
        rw [save_zero] at h
        exact h)
      have SD := Lib.hid (fun u (D : Pl20 p d s0 s0 [] W u) => by
        have h := tw_save_d (m := ⟨0, 0, []⟩) D (by have := SC.out; omega) (liesFl_nil W) (by unfold maxLen; simp) (fun f hf => by cases hf) (by unfold I64; decide) (by unfold I64; decide)
        rw [save_zero] at h
        exact h)
      obtain ⟨⟨m0, m1, m2⟩, _⟩ := KM.out _ D00.out.gr
      have HE := Lib.hid e0
      have KD := Lib.hid (fun u (D : Pl20 p d s0 s0 [] W u) => (KM.out u D.gr).1)
      clear hlt hi D0 e0 HS0
      go_wp2_with fail
      go_region_held3 (fun u => u.cell? ⟨w.heap.size, 0, none⟩ = some (.int .i64 0) ∧ u.cell? ⟨w.heap.size, 1, none⟩ = some (.int .i64 0) ∧ u.cell? ⟨w.heap.size, 2, none⟩ = some (.slice none 0 0)) (first | assumption | exact ⟨by assumption, by assumption, by assumption⟩ | go_keep)
        (first
          | (go_at_call 22; (with_reducible refine (SP.out).mono ?_); rintro e t1 ⟨rfl, d13⟩; have D13 := Lib.hid (show Pl20 p d s0 s0 [] W t1 from d13); obtain ⟨ka0, ka1, ka2⟩ := KD.out _ d13; clear d13)
          | (go_at_call 41; (with_reducible refine (SD.out _ D13.out).mono ?_); rintro e t2 ⟨rfl, d14⟩; have D14 := Lib.hid (show Pl20 p d s0 s0 [] W t2 from d14); obtain ⟨kb0, kb1, kb2⟩ := KD.out _ d14; clear d14))
      have FN := Lib.hid (show BothGot l w (.returned (.tuple #[.pointer (some ⟨p, 0, none⟩), .pointer (some ⟨d, 0, none⟩), .bool true])) t2 from ⟨p, d, rfl, by
        rw [← HE.out]
        obtain ⟨hF, B, k, n⟩ := D14.out
        exact ⟨hF, B, k, (Nx.gr G0.out).trans n⟩⟩)
      go_wp2_with fail
      exact bodyPost_ret (v := .tuple #[.pointer (some ⟨p, 0, none⟩), .pointer (some ⟨d, 0, none⟩), .bool true]) (by simp [results, Tryz.results8, go_sem]) rfl FN.out
end Go.Proofs.YtignfbdgpgidpaaGreatDoor
/- Two Infos compared. -/
namespace Go.Proofs.YtignfbdgpgidpaaGreatDoor
open Go.RowKit
set_option linter.unusedVariables false
set_option linter.unusedSimpArgs false
set_option maxRecDepth 20000
theorem info_same (n m : Int) (w : World) : (Op.equalIn 10000 50 (.agg #[.int .i64 n, .int .u32 m]) (.agg #[.int .i64 n, .int .u32 m])).run Tryz.prog w = .ok true w := by
  rw [run_equalIn_agg w 9999 _ _ _ (by kernel_rfl) (by kernel_rfl)]
  simp [go_sem]
end Go.Proofs.YtignfbdgpgidpaaGreatDoor
/- Plain facts on rows of strings and on blocks, without the model; a row of strings in memory. -/
namespace Go.Proofs.YtignfbdgpgidpaaGreatDoor
open Go.RowKit CrcPlain OctPlain
set_option linter.unusedVariables false
set_option linter.unusedSimpArgs false
set_option maxRecDepth 20000
namespace FramePlain
def sizeB (size : Int) : Bool := decide (1 ≤ size ∧ size ≤ 64)
def roomN (size : Int) : Int := if sizeB size = true then 5 + 4 * size else 0
def cat (l : List ByteArray) : List UInt8 := (l.map (·.data.toList)).flatten
def allB (size : Int) (l : List ByteArray) : Bool := l.all (fun s => decide ((s.size : Int) = size))
def blkB (size : Int) (l : List ByteArray) : Bool := sizeB size && decide (1 ≤ l.length ∧ l.length ≤ 4) && allB size l
def blk (l : List ByteArray) : ByteArray := bs (UInt8.ofNat l.length :: cat l)
theorem cat_snoc (l : List ByteArray) (x : ByteArray) : cat (l ++ [x]) = cat l ++ x.data.toList := by simp [cat]
theorem allB_iff {size : Int} {l : List ByteArray} : allB size l = true ↔ ∀ s ∈ l, (s.size : Int) = size := by simp [allB]
theorem data_length (s : ByteArray) : s.data.toList.length = s.size := Array.length_toList
theorem cat_length {size : Nat} : ∀ {l : List ByteArray}, (∀ s ∈ l, s.size = size) → (cat l).length = l.length * size
  | [], _ => by simp [cat]
  | x :: r, h => by
    have ih := cat_length (l := r) fun s hs => h s (by simp [hs])
    have e : cat (x :: r) = x.data.toList ++ cat r := rfl
    rw [e, List.length_append, ih, data_length, h x (by simp), List.length_cons, Nat.add_mul, Nat.one_mul, Nat.add_comm]
theorem blk_size (l : List ByteArray) : (blk l).size = 1 + (cat l).length := by unfold blk; rw [bs_size, List.length_cons]; omega
end FramePlain
open FramePlain
end Go.Proofs.YtignfbdgpgidpaaGreatDoor
/- Plain facts on rows of numbers' bytes; facts of memory for them. -/
namespace Go.Proofs.YtignfbdgpgidpaaGreatDoor
open Go.RowKit OctPlain
set_option linter.unusedVariables false
set_option linter.unusedSimpArgs false
set_option maxRecDepth 20000
namespace OctPlain
theorem getD_at (l : List Int) (j : Nat) (hj : j < l.length) : l.getD j 0 = l[j] := by simp [hj]
theorem take_snoc (l : List Int) (j : Nat) (z : Int) (hj : j < l.length) (hz : l.getD j 0 = z) : l.take (j + 1) = l.take j ++ [z] := by
  rw [List.take_succ_eq_append_getElem hj, ← hz, getD_at l j hj]
end OctPlain
theorem Gr.grown {a b : World} (h : Gr a b) : a.grownBy b none := ⟨h.os, h.tape, h.output, h.size, fun k hk _ => h.block k hk⟩
end Go.Proofs.YtignfbdgpgidpaaGreatDoor
/- Contracts of Split, of the document's answer to it, and of the statement's comparison of two lists. -/
namespace Go.Proofs.YtignfbdgpgidpaaGreatDoor
open Go.RowKit OctPlain
set_option linter.unusedVariables false
set_option linter.unusedSimpArgs false
set_option maxRecDepth 20000
namespace OctPlain
def pieces (s : ByteArray) (k : Nat) : Nat → List ByteArray
  | 0 => []
  | j + 1 => pieces s k j ++ [s.extract (j * k) (j * k + k)]
theorem pieces_length (s : ByteArray) (k : Nat) : ∀ j, (pieces s k j).length = j
  | 0 => rfl
  | j + 1 => by rw [pieces, List.length_append, pieces_length s k j]; rfl
def splB (s : ByteArray) (k : Int) : Bool := decide (1 ≤ k ∧ (s.size : Int) % k = 0)
def splL (s : ByteArray) (k : Int) : List ByteArray := if splB s k = true then pieces s k.toNat (s.size / k.toNat) else []
theorem splL_yes {s : ByteArray} {k : Int} (h : splB s k = true) : splL s k = pieces s k.toNat (s.size / k.toNat) := by simp [splL, h]
end OctPlain
end Go.Proofs.YtignfbdgpgidpaaGreatDoor
/- A slice that holds these strings, whoever made it; the document's comparison of two such. -/
namespace Go.Proofs.YtignfbdgpgidpaaGreatDoor
open Go.RowKit OctPlain FramePlain
set_option linter.unusedVariables false
set_option linter.unusedSimpArgs false
set_option maxRecDepth 20000
end Go.Proofs.YtignfbdgpgidpaaGreatDoor
/- strings.Join with nothing between: by the library's contract, laid at this program's numbers. -/
namespace Go.Proofs.YtignfbdgpgidpaaGreatDoor
open Go.RowKit FramePlain
set_option linter.unusedVariables false
end Go.Proofs.YtignfbdgpgidpaaGreatDoor
/- The contracts of Room and of what says which sizes and numbers of records may be; the document's All and Put. -/
namespace Go.Proofs.YtignfbdgpgidpaaGreatDoor
open Go.RowKit CrcPlain OctPlain FramePlain
set_option linter.unusedVariables false
set_option linter.unusedSimpArgs false
set_option maxRecDepth 20000
theorem fsized_c (k : Int) (hk : I64 k) (w : World) :
    Calls Tryz.prog 159 #[.int .i64 k] w fun e w' => e = .returned (.bool (sizeB k)) ∧ w = w' := by
  unfold sizeB
  by_cases h1 : 1 ≤ k <;> by_cases h2 : k ≤ 64
  all_goals
    go_enter Tryz.func159, Tryz.ntmps159
    go_wp2
    go_ret
    exact ⟨by simp [h1, h2], rfl⟩
theorem fsroom_c (size n m : Int) (h1 : 1 ≤ size ∧ size ≤ 64) (h2 : 1 ≤ n ∧ n ≤ 4) (hm : n * size = m) (w : World) :
    Calls Tryz.prog 160 #[.int .i64 size, .int .i64 n] w fun e w' => e = .returned (.int .i64 (5 + m)) ∧ w = w' := by
  have hb : 1 ≤ m ∧ m ≤ 256 := by
    have hn : n = 1 ∨ n = 2 ∨ n = 3 ∨ n = 4 := by omega
    rcases hn with rfl | rfl | rfl | rfl <;> omega
  go_enter Tryz.func160, Tryz.ntmps160
  go_wp2
  go_ret
  exact ⟨ret_i (by omega), rfl⟩
theorem room_c (k : Int) (hk : I64 k) (w : World) :
    Calls Tryz.prog 129 #[.int .i64 k] w fun e w' => e = .returned (.int .i64 (roomN k)) ∧ w = w' := by
  cases h : sizeB k
  · go_enter Tryz.func129, Tryz.ntmps129
    go_wp2_with fail
    refine (fsized_c k hk _).mono ?_; rintro e u ⟨rfl, rfl⟩
    go_wp2_with fail
    go_ret
    exact ⟨ret_i (by simp [roomN, h]), rfl⟩
  · have h' := h
    simp only [sizeB, decide_eq_true_eq] at h'
    go_enter Tryz.func129, Tryz.ntmps129
    go_wp2_with fail
    refine (fsized_c k hk _).mono ?_; rintro e u ⟨rfl, rfl⟩
    go_wp2_with fail
    refine (fsroom_c k 4 (4 * k) h' (by omega) rfl _).mono ?_; rintro e u ⟨rfl, rfl⟩
    go_wp2_with fail
    go_ret
    exact ⟨ret_i (by simp [roomN, h]), rfl⟩
theorem retb {a b : Bool} (h : a = b) : Ending.returned (.bool a) = .returned (.bool b) := by rw [h]
end Go.Proofs.YtignfbdgpgidpaaGreatDoor
/- The contracts of what joins records, and of Put. -/
namespace Go.Proofs.YtignfbdgpgidpaaGreatDoor
open Go.RowKit CrcPlain OctPlain FramePlain
set_option linter.unusedVariables false
set_option linter.unusedSimpArgs false
set_option maxRecDepth 20000
end Go.Proofs.YtignfbdgpgidpaaGreatDoor
/- The contracts of PutEnd, and of the document's. -/
namespace Go.Proofs.YtignfbdgpgidpaaGreatDoor
open Go.RowKit CrcPlain OctPlain FramePlain
set_option linter.unusedVariables false
set_option linter.unusedSimpArgs false
set_option maxRecDepth 20000
namespace FramePlain
def endS (c m : Nat) : ByteArray := bs (0 :: (beL 8 c ++ beL 4 m))
def peB (c : Int) : Bool := decide (0 ≤ c ∧ c ≤ 4611686018427387904)
theorem endS_size (c m : Nat) : (endS c m).size = 13 := by unfold endS; rw [bs_size, List.length_cons, List.length_append, beL_length, beL_length]
end FramePlain
end Go.Proofs.YtignfbdgpgidpaaGreatDoor
/- Plain facts on what the bytes of a block say. -/
namespace Go.Proofs.YtignfbdgpgidpaaGreatDoor
open Go.RowKit CrcPlain OctPlain FramePlain
set_option linter.unusedVariables false
set_option linter.unusedSimpArgs false
set_option maxRecDepth 20000
namespace FramePlain
def cntN (s : ByteArray) : Nat := num (cutL s 0 1)
def gLen (size : Int) (s : ByteArray) : Int := 5 + cntN s * size
def gB (size : Int) (s : ByteArray) : Bool := sizeB size && decide (1 ≤ cntN s ∧ cntN s ≤ 4) && decide (gLen size s ≤ s.size) && opB (s.extract 0 (gLen size s).toNat)
def gN (size : Int) (s : ByteArray) : Int := if gB size s = true then gLen size s else 0
def gBody (size : Int) (s : ByteArray) : ByteArray := (opS (s.extract 0 (gLen size s).toNat)).extract 1 (opS (s.extract 0 (gLen size s).toNat)).size
def gL (size : Int) (s : ByteArray) : List ByteArray := if gB size s = true then splL (gBody size s) size else []
theorem gN_no {size : Int} {s : ByteArray} (h : gB size s = false) : gN size s = 0 := by simp [gN, h]
theorem gL_no {size : Int} {s : ByteArray} (h : gB size s = false) : gL size s = [] := by simp [gL, h]
theorem gN_yes {size : Int} {s : ByteArray} (h : gB size s = true) : gN size s = gLen size s := by simp [gN, h]
theorem gL_yes {size : Int} {s : ByteArray} (h : gB size s = true) : gL size s = splL (gBody size s) size := by simp [gL, h]
theorem cntN_lt (s : ByteArray) : cntN s < 256 := by
  have h := num_lt (cutL s 0 1)
  have hl : (cutL s 0 1).length ≤ 1 := by unfold cutL; rw [List.length_take]; omega
  have hp : 256 ^ (cutL s 0 1).length ≤ 256 ^ 1 := Nat.pow_le_pow_right (by omega) hl
  unfold cntN
  omega
theorem cntN_at (s : ByteArray) (h : 0 < s.size) : s[0].toNat = cntN s := by
  have e := cutL_take s 0 1 0 (by omega) (by omega)
  have hl := cutL_length s 0 1 (by omega)
  rw [List.take_of_length_le (by omega)] at e
  unfold cntN
  rw [e]
  simp [num]
end FramePlain
end Go.Proofs.YtignfbdgpgidpaaGreatDoor
