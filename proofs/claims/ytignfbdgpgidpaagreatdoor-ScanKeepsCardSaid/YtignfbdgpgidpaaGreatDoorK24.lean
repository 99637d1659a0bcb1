/- In one text: CmTwo, CmAwake, CmCalls, CmPlay, CmBoth, ScBoth, InfoEq, FramePlain, OctRows, OctSplit, Lies. -/
import Derived.Test.YtignfbdgpgidpaaGreatDoorK23
import Derived.Test.YtignfbdgpgidpaaGreatDoorK22
import Derived.Test.YtignfbdgpgidpaaGreatDoorK10
import Derived.Test.YtignfbdgpgidpaaGreatDoorK12
import Derived.Test.YtignfbdgpgidpaaGreatDoorK13
import Derived.Test.YtignfbdgpgidpaaGreatDoorK00
import Derived.Deep.DeepCutAuto
import Derived.Test.YtignfbdgpgidpaaGreatDoorK08
import Derived.Test.YtignfbdgpgidpaaGreatDoorK11
import Derived.Test.YtignfbdgpgidpaaGreatDoorK14
import Derived.Lib.Hide
import Derived.Lib.BufferWrite
import Derived.Lib.BufferRead
import Derived.Test.YtignfbdgpgidpaaGreatDoorK04
import Derived.RegionTactic
import Derived.BigRegion
/- Both disks of a law of commit, apart from one another: each call on either. -/
namespace Go.Proofs.YtignfbdgpgidpaaGreatDoor
open Go.RowKit FsPlain CrcPlain OctPlain MnPlain CmPlain
set_option linter.unusedVariables false
set_option linter.unusedSimpArgs false
set_option maxRecDepth 20000
def Pl20 (p d : Nat) (s t : St) (M : List Asn) (w wr : World) : Prop := Ps (DiskA p s :: RDiskA d t :: M) w wr
theorem Pl20.set3 {p d : Nat} {s t : St} {M : List Asn} {w u : World} {X : Nat} {c : Array Value} {T : TypeId} (h : Pl20 p d s t M w u) (i : Nat) (hi : M[i]? = some (Blk X c T)) (hc : c.size = 3) (x y z : Value) : Pl20 p d s t (M.set i (Blk X #[x, y, z] T)) w (((u.setCell ⟨X, 0, none⟩ x).setCell ⟨X, 1, none⟩ y).setCell ⟨X, 2, none⟩ z) := Qs.set3 h (i + 2) hi hc x y z
theorem mn_cells {u : World} {X : Nat} {x y : Int} {v : Value} {T : TypeId} (h : u.heap[X]? = some (.cells #[.int .i64 x, .int .i64 y, v] T (0, 0))) : (u.cell? ⟨X, 0, none⟩ = some (.int .i64 x) ∧ u.cell? ⟨X, 1, none⟩ = some (.int .i64 y) ∧ u.cell? ⟨X, 2, none⟩ = some v) ∧ u.frozen? ⟨X, 0, none⟩ = false ∧ u.frozen? ⟨X, 1, none⟩ = false ∧ u.frozen? ⟨X, 2, none⟩ = false :=
  ⟨⟨by rw [cells_at h]; rfl, by rw [cells_at h]; rfl, by rw [cells_at h]; rfl⟩, cells_free h 0, cells_free h 1, cells_free h 2⟩
def LdTells (s : St) (R : List Asn → World → Prop) (e : Ending) (w' : World) : Prop := ∃ (m : Mn) (a : Option Addr) (c : Nat) (b : Bool) (code : Int), e = .returned (.tuple #[.agg #[.int .i64 m.stage, .int .i64 m.pass, .slice a m.files.length c], .bool b, .int .i64 code]) ∧ m.files.length ≤ maxLen ∧ ldIs (loadE s) m b code ∧ R [FlA (.slice a m.files.length c) m.files] w'
theorem ps_load {F : FuncId} {args : Array Value} {P T : Asn} {L : List Asn} {s : St} {w u : World} (h : Ps (P :: L) w u) (hT : Fr T) (C : ∀ B1, P u B1 → Calls Tryz.prog F args u (LdGot T s B1 u)) : Calls Tryz.prog F args u (LdTells s fun M w' => Ps (T :: (L ++ M)) w w') := by
  obtain ⟨hF, B, ⟨B1, B2, p, r, a, e⟩, n⟩ := h
  refine (C B1 p).mono ?_
  rintro e' w' ⟨m, a', c, b, code, rfl, hl, hld, B', q, n1⟩
  refine ⟨m, a', c, b, code, rfl, hl, hld, ?_⟩
  obtain ⟨B3, h3, n3⟩ := star_of (fr_stars hF.2) r a e q n1
  refine Qs.perm (L := FlA (.slice a' m.files.length c) m.files :: T :: L) ⟨⟨fr_fl _ _, hT, hF.2⟩, B3, star_left h3, n.trans n3⟩ ?_
  exact (List.Perm.swap _ _ _).trans (List.Perm.cons _ (List.perm_append_singleton _ _).symm)
end Go.Proofs.YtignfbdgpgidpaaGreatDoor
/- The example of layer 20's statements. (Cm: the program's Save and Load.) -/
namespace Go.Proofs.YtignfbdgpgidpaaGreatDoor
open Go.RowKit FsPlain CrcPlain OctPlain MnPlain CmPlain
set_option linter.unusedVariables false
set_option linter.unusedSimpArgs false
set_option maxRecDepth 20000
def Pd20 (p : Nat) (s : St) (M : List Asn) (w u : World) : Prop := Ps (DiskA p s :: M) w u
theorem pd_save {p : Nat} {s : St} {M : List Asn} {w u : World} (h : Pd20 p s M w u) {m : Mn} {a : Option Addr} {n c : Nat} (h1 : s.calls ≤ 1000000000) (hm : LiesFl u (.slice a n c) m.files) (hl : m.files.length ≤ maxLen) (hK : ∀ f ∈ m.files, flK f) : Calls Tryz.prog 22 #[.pointer (some ⟨p, 0, none⟩), .agg #[.int .i64 m.stage, .int .i64 m.pass, .slice a n c]] u fun e w' => e = .returned (.int .i64 (saveR s m).2) ∧ Pd20 p (saveR s m).1 M w w' :=
  Qs.call0 (X := fun e _ => e = .returned (.int .i64 (saveR s m).2)) h (fr_disk _ _) fun B1 hp => csave20_c p s m u B1 hp h1 hm hl hK
theorem pd_load {p : Nat} {s : St} {M : List Asn} {w u : World} (h : Pd20 p s M w u) (h1 : s.calls ≤ 1000000000) (hz : ∀ x, (loadE s).2 = some x → x.length ≤ 700) : Calls Tryz.prog 97 #[.pointer (some ⟨p, 0, none⟩)] u (LdTells s fun N w' => Pd20 p (loadT s) (M ++ N) w w') :=
  ps_load h (fr_disk p (loadT s)) fun B1 hp => cload20_c p s u B1 hp h1 (by have hok : s.ok := hp.1; have := hok.u; have := hok.r1; omega) hz
theorem pd_new (room : Int) (h0 : 0 ≤ room) (h1 : room ≤ 16777216) (w : World) : Calls Tryz.prog 16 #[.int .i64 room] w fun e w' => ∃ p, e = .returned (.tuple #[.pointer (some ⟨p, 0, none⟩), .int .i64 0]) ∧ Pd20 p (fresh room) [] w w' :=
  (new_c room h0 h1 w).mono fun e w' ⟨p, B, he, hd, hg, hb⟩ => ⟨p, he, ⟨fr_disk _ _, trivial⟩, B, ⟨B, fun _ => False, hd, (fun _ h => h), (fun _ _ h => h), fun b => (or_false _).symm ▸ Iff.rfl⟩, ⟨Only.ofGr hg, fun b h => .inr (hb b h)⟩⟩
end Go.Proofs.YtignfbdgpgidpaaGreatDoor
/- Both disks of a law of commit: what the law asks of them beside Save, Load, Arm, Rise. -/
namespace Go.Proofs.YtignfbdgpgidpaaGreatDoor
open Go.RowKit FsPlain CrcPlain OctPlain MnPlain CmPlain
set_option linter.unusedVariables false
set_option linter.unusedSimpArgs false
set_option maxRecDepth 20000
end Go.Proofs.YtignfbdgpgidpaaGreatDoor
/- The states of a law of commit, round by round. -/
namespace Go.Proofs.YtignfbdgpgidpaaGreatDoor
open Go.RowKit FsPlain CrcPlain OctPlain MnPlain CmPlain
set_option linter.unusedVariables false
set_option linter.unusedSimpArgs false
set_option maxRecDepth 20000
namespace CmPlain
theorem pt_small (m : Mn) : (ptS m).data.toList.length ≤ 700 := by
  show (ptS m).size ≤ 700
  unfold ptS
  split
  · next h =>
    have hb : newB [] m.files = true := by unfold mnB at h; rw [Bool.and_eq_true] at h; exact h.2
    have h16 : m.files.length ≤ 16 := by
      unfold mnB at h
      simp only [Bool.and_eq_true, decide_eq_true_eq] at h
      exact h.1.2.2
    have := flatl_le (l := m.files) fun f hf => by
      have := newB_all hb f hf
      unfold flB rightB at this
      simp only [Bool.and_eq_true, decide_eq_true_eq] at this
      have e : f.name.data.toList.length = f.name.size := rfl
      omega
    rw [mnS_size, ← flat_length]
    omega
  · show (0 : Nat) ≤ 700; omega
end CmPlain
end Go.Proofs.YtignfbdgpgidpaaGreatDoor
/- The program's Save and Load, as calls on one of two disks. -/
namespace Go.Proofs.YtignfbdgpgidpaaGreatDoor
open Go.RowKit FsPlain CrcPlain OctPlain MnPlain CmPlain
set_option linter.unusedVariables false
set_option linter.unusedSimpArgs false
set_option maxRecDepth 20000
end Go.Proofs.YtignfbdgpgidpaaGreatDoor
/- For the laws of layer 22: few files; both disks with the same files. -/
namespace Go.Proofs.YtignfbdgpgidpaaGreatDoor
open Go.RowKit FsPlain CrcPlain OctPlain MnPlain CmPlain ScPlain
set_option linter.unusedVariables false
set_option linter.unusedSimpArgs false
set_option maxRecDepth 20000
namespace ScPlain
def RtS (s : St) : Prop := ∀ f ∈ s.fs, rightB f.name = true
def oneFy (x : Fy) : Bool := decide (x.data.size ≤ 300) && decide (x.name.size ≤ 40)
def fewFy (l : List Fy) : Bool := (l.take 12).all oneFy && decide (l.length ≤ 12)
theorem few_fy {l : List Fy} (h : fewFy l = true) : l.length ≤ 12 ∧ ∀ x ∈ l, x.data.size ≤ 300 ∧ x.name.size ≤ 40 := by
  unfold fewFy at h
  rw [Bool.and_eq_true, decide_eq_true_iff, List.all_eq_true] at h
  refine ⟨h.2, fun x hx => ?_⟩
  have := h.1 x (by rw [List.take_of_length_le h.2]; exact hx)
  unfold oneFy at this
  rw [Bool.and_eq_true, decide_eq_true_iff, decide_eq_true_iff] at this
  exact this
end ScPlain
def FyFew (l : List Fy) (w : World) (v : Value) (wr : World) : Prop := ∃ i : Nat, i ≤ l.length ∧ i ≤ 12 ∧ v = .int .i64 (i : Int) ∧ (∀ j (hj : j < l.length), j < i → oneFy l[j] = true) ∧ Gr w wr
theorem no_one {l : List Fy} {i : Nat} (h : i < l.length) (h12 : i < 12) (hf : oneFy l[i] = false) : fewFy l = false := by
  unfold fewFy
  rw [Bool.and_eq_false_iff, List.all_eq_false]
  left
  exact ⟨l[i], by rw [List.mem_iff_getElem]; exact ⟨i, by rw [List.length_take]; omega, by rw [List.getElem_take]⟩, by rw [hf]; simp⟩
set_option maxHeartbeats 2000000 in
theorem few22_c {a : Option Addr} {n c : Nat} {l : List Fy} (w : World) (h : LiesFy w (.slice a n c) l) (hl : l.length ≤ maxLen) :
    Calls Tryz.prog 6 #[.slice a n c, .agg #[.int .i64 0, .int .i64 0, .slice none 0 0]] w fun e w' => e = .returned (.bool (fewFy l)) ∧ Gr w w' := by
  have hn : n = l.length := by
    obtain ⟨a', c', e, hc, _⟩ := h
    simp only [Value.slice.injEq] at e
    exact e.2.1
  obtain ⟨r, hr⟩ : ∃ r, fewFy l = r := ⟨_, rfl⟩
  rw [hr]
  unfold maxLen at hl
  have g0 := gr19 w (.cells #[.int .i64 0, .int .i64 0, .slice none 0 0] 27)
  have yW : (w.alloc (.cells #[.int .i64 0, .int .i64 0, .slice none 0 0] 27)).heap[w.heap.size]? = some (.cells #[.int .i64 0, .int .i64 0, .slice none 0 0] 27 (0, 0)) := heap_alloc_new w _
  have KM := Lib.hid (fun u (g : Gr (w.alloc (.cells #[.int .i64 0, .int .i64 0, .slice none 0 0] 27)) u) => mn_cells ((Below.block g _ (by simp)).trans yW))
  have RF := Lib.hid (fun u => by
    have h := rfew_c 0 0 none 0 0 [] u (liesFl_nil u) (by unfold maxLen; simp)
    rw [show fewB [] = true from rfl] at h
    exact h)
  have H := Lib.hid (h.gr g0)
  have G0 := Lib.hid g0
  have HR := Lib.hid hr
  clear h hr yW g0
  subst hn
  go_enter Tryz.func6, Tryz.ntmps6
  go_wp2_with fail
  obtain ⟨W, hW⟩ : ∃ W, w.alloc (.cells #[.int .i64 0, .int .i64 0, .slice none 0 0] 27) = W := ⟨_, rfl⟩
  rw [hW] at KM H G0
  rw [hW]
  clear hW
  go_loopw [5] (fun v wr => FyFew l W v wr) (fun v _ => l.length - (intOf v).toNat)
  case atStart => exact ⟨0, Nat.zero_le _, by decide, rfl, fun j _ hj => by omega, Gr.refl _⟩
  case round =>
    obtain ⟨i, hi1, hi2, rfl, hall, g1⟩ := hrel
    have HA := Lib.hid hall
    have G1 := Lib.hid g1
    clear hall
    by_cases hlt : i < l.length ∧ i < 12
    · obtain ⟨_, hc, b, o, rfl, hb, k0, k1⟩ := fy_get (H.out.gr g1) hlt.1
      obtain ⟨x, hx⟩ : ∃ x, l[i] = x := ⟨_, rfl⟩
      rw [hx] at k0 k1
      have q1 : (i : Int) < (l.length : Int) := by omega
      have q2 : (i : Int) < 12 := by omega
      have hno := no_one hlt.1 hlt.2
      rw [hx, HR.out] at hno
      by_cases hd : x.data.size ≤ 300
      · by_cases hnm : x.name.size ≤ 40
        · have q3 : ¬ (300 : Int) < (x.data.size : Int) := by omega
          have q4 : ¬ (40 : Int) < (x.name.size : Int) := by omega
          have NX := Lib.hid (show FyFew l W (.int .i64 ((i : Int) + 1)) wr from ⟨i + 1, by omega, by omega, by rw [Int.natCast_add]; rfl, fun j hj hji => by
            by_cases e : j = i
            · subst e; rw [hx]; unfold oneFy; rw [decide_eq_true hd, decide_eq_true hnm]; rfl
            · exact HA.out j hj (by omega), g1⟩)
          clear hno hx hd hnm hlt g1
          go_wp2_with fail
          go_roundw
          case rel => exact NX.out
          case measure => simp [intOf]; omega
        · have q3 : ¬ (300 : Int) < (x.data.size : Int) := by omega
          have q4 : (40 : Int) < (x.name.size : Int) := by omega
          obtain rfl : r = false := hno (by unfold oneFy; rw [decide_eq_false hnm, Bool.and_false])
          clear hno hx hd hnm hlt g1
          go_wp2_with fail
          go_ret
          exact ⟨rfl, G0.out.trans G1.out⟩
      · have q3 : (300 : Int) < (x.data.size : Int) := by omega
        obtain rfl : r = false := hno (by unfold oneFy; rw [decide_eq_false hd]; rfl)
        clear hno hx hd hlt g1
        go_wp2_with fail
        go_ret
        exact ⟨rfl, G0.out.trans G1.out⟩
    · have er : r = decide ((l.length : Int) ≤ 12) := by
        rw [← HR.out]
        unfold fewFy
        have e1 : (l.take 12).all oneFy = true := by
          rw [List.all_eq_true]
          intro f hf
          obtain ⟨j, hj, rfl⟩ := List.mem_iff_getElem.1 hf
          rw [List.length_take] at hj
          rw [List.getElem_take]
          exact HA.out j (by omega) (by omega)
        rw [e1, Bool.true_and]
        exact decide_eq_decide.2 (by omega)
      by_cases h12 : (l.length : Int) ≤ 12
      · rw [decide_eq_true h12] at er
        subst er
        have q1 : ¬ (i : Int) < (l.length : Int) := by omega
        obtain ⟨⟨m0, m1, m2⟩, _⟩ := KM.out wr g1
        clear hlt g1
        go_wp2_with fail
        refine (RF.out wr).mono ?_; rintro e u ⟨rfl, g2⟩
        have G2 := Lib.hid g2
        clear g2
        go_wp2_with fail
        go_ret
        exact ⟨rfl, (G0.out.trans G1.out).trans G2.out⟩
      · rw [decide_eq_false h12] at er
        subst er
        have q2 : ¬ (i : Int) < 12 := by omega
        by_cases q1 : (i : Int) < (l.length : Int)
        · clear hlt g1
          go_wp2_with fail
          go_ret
          exact ⟨rfl, G0.out.trans G1.out⟩
        · clear hlt g1
          go_wp2_with fail
          go_ret
          exact ⟨rfl, G0.out.trans G1.out⟩
end Go.Proofs.YtignfbdgpgidpaaGreatDoor
/- Two Infos compared. -/
namespace Go.Proofs.YtignfbdgpgidpaaGreatDoor
open Go.RowKit
set_option linter.unusedVariables false
set_option linter.unusedSimpArgs false
set_option maxRecDepth 20000
theorem info_same (n m : Int) (w : World) : (Op.equalIn 10000 50 (.agg #[.int .i64 n, .int .u32 m]) (.agg #[.int .i64 n, .int .u32 m])).run Tryz.prog w = .ok true w := by
  rw [run_equalIn_agg w 9999 _ _ _ (by kernel_rfl) (by kernel_rfl)]
  simp [go_sem]
end Go.Proofs.YtignfbdgpgidpaaGreatDoor
/- Plain facts on rows of strings and on blocks, without the model; a row of strings in memory. -/
namespace Go.Proofs.YtignfbdgpgidpaaGreatDoor
open Go.RowKit CrcPlain OctPlain
set_option linter.unusedVariables false
set_option linter.unusedSimpArgs false
set_option maxRecDepth 20000
namespace FramePlain
def sizeB (size : Int) : Bool := decide (1 ≤ size ∧ size ≤ 64)
def roomN (size : Int) : Int := if sizeB size = true then 5 + 4 * size else 0
def cat (l : List ByteArray) : List UInt8 := (l.map (·.data.toList)).flatten
def allB (size : Int) (l : List ByteArray) : Bool := l.all (fun s => decide ((s.size : Int) = size))
def blkB (size : Int) (l : List ByteArray) : Bool := sizeB size && decide (1 ≤ l.length ∧ l.length ≤ 4) && allB size l
def blk (l : List ByteArray) : ByteArray := bs (UInt8.ofNat l.length :: cat l)
def blkS (size : Int) (l : List ByteArray) : ByteArray := if blkB size l = true then cl (blk l) else ⟨#[]⟩
theorem blkS_no {size : Int} {l : List ByteArray} (h : blkB size l = false) : blkS size l = ⟨#[]⟩ := by simp [blkS, h]
theorem blkS_yes {size : Int} {l : List ByteArray} (h : blkB size l = true) : blkS size l = cl (blk l) := by simp [blkS, h]
theorem cat_snoc (l : List ByteArray) (x : ByteArray) : cat (l ++ [x]) = cat l ++ x.data.toList := by simp [cat]
theorem allB_iff {size : Int} {l : List ByteArray} : allB size l = true ↔ ∀ s ∈ l, (s.size : Int) = size := by simp [allB]
theorem data_length (s : ByteArray) : s.data.toList.length = s.size := Array.length_toList
theorem cat_length {size : Nat} : ∀ {l : List ByteArray}, (∀ s ∈ l, s.size = size) → (cat l).length = l.length * size
  | [], _ => by simp [cat]
  | x :: r, h => by
    have ih := cat_length (l := r) fun s hs => h s (by simp [hs])
    have e : cat (x :: r) = x.data.toList ++ cat r := rfl
    rw [e, List.length_append, ih, data_length, h x (by simp), List.length_cons, Nat.add_mul, Nat.one_mul, Nat.add_comm]
theorem cat_le {l : List ByteArray} (h : ∀ s ∈ l, s.size ≤ 64) : (cat l).length ≤ l.length * 64 := by
  induction l with
  | nil => simp [cat]
  | cons x r ih =>
    have e : cat (x :: r) = x.data.toList ++ cat r := rfl
    have := ih fun s hs => h s (by simp [hs])
    have hx := h x (by simp)
    rw [e, List.length_append, data_length, List.length_cons]
    omega
theorem blk_size (l : List ByteArray) : (blk l).size = 1 + (cat l).length := by unfold blk; rw [bs_size, List.length_cons]; omega
end FramePlain
open FramePlain
end Go.Proofs.YtignfbdgpgidpaaGreatDoor
/- Plain facts on rows of numbers' bytes; facts of memory for them. -/
namespace Go.Proofs.YtignfbdgpgidpaaGreatDoor
open Go.RowKit OctPlain
set_option linter.unusedVariables false
set_option linter.unusedSimpArgs false
set_option maxRecDepth 20000
namespace OctPlain
theorem getD_at (l : List Int) (j : Nat) (hj : j < l.length) : l.getD j 0 = l[j] := by simp [hj]
theorem take_snoc (l : List Int) (j : Nat) (z : Int) (hj : j < l.length) (hz : l.getD j 0 = z) : l.take (j + 1) = l.take j ++ [z] := by
  rw [List.take_succ_eq_append_getElem hj, ← hz, getD_at l j hj]
end OctPlain
theorem Gr.grown {a b : World} (h : Gr a b) : a.grownBy b none := ⟨h.os, h.tape, h.output, h.size, fun k hk _ => h.block k hk⟩
end Go.Proofs.YtignfbdgpgidpaaGreatDoor
/- Contracts of Split, of the document's answer to it, and of the statement's comparison of two lists. -/
namespace Go.Proofs.YtignfbdgpgidpaaGreatDoor
open Go.RowKit OctPlain
set_option linter.unusedVariables false
set_option linter.unusedSimpArgs false
set_option maxRecDepth 20000
namespace OctPlain
def pieces (s : ByteArray) (k : Nat) : Nat → List ByteArray
  | 0 => []
  | j + 1 => pieces s k j ++ [s.extract (j * k) (j * k + k)]
theorem pieces_length (s : ByteArray) (k : Nat) : ∀ j, (pieces s k j).length = j
  | 0 => rfl
  | j + 1 => by rw [pieces, List.length_append, pieces_length s k j]; rfl
def splB (s : ByteArray) (k : Int) : Bool := decide (1 ≤ k ∧ (s.size : Int) % k = 0)
def splL (s : ByteArray) (k : Int) : List ByteArray := if splB s k = true then pieces s k.toNat (s.size / k.toNat) else []
theorem splL_yes {s : ByteArray} {k : Int} (h : splB s k = true) : splL s k = pieces s k.toNat (s.size / k.toNat) := by simp [splL, h]
end OctPlain
end Go.Proofs.YtignfbdgpgidpaaGreatDoor
/- A slice that holds these strings, whoever made it; the document's comparison of two such. -/
namespace Go.Proofs.YtignfbdgpgidpaaGreatDoor
open Go.RowKit OctPlain FramePlain
set_option linter.unusedVariables false
set_option linter.unusedSimpArgs false
set_option maxRecDepth 20000
theorem same_none4 (a b : Option Addr) (c d : Nat) (w : World) :
    Calls Tryz.prog 26 #[.slice a 0 c, .slice b 0 d] w fun e w' => e = .returned (.bool true) ∧ Gr w w' := by
  go_enter Tryz.func26, Tryz.ntmps26
  go_wp2_with fail
  go_rounds 1
  go_ret
  exact ⟨rfl, Gr.refl _⟩
def Same4At (n : Nat) (w : World) (i : Value) (wr : World) : Prop := ∃ j : Nat, j ≤ n ∧ i = .int .i64 j ∧ Below w.heap.size w wr
set_option maxHeartbeats 2000000 in
theorem same_some4 (g1 g2 o1 o2 n c d : Nat) (L : List ByteArray) (hL : L.length = n) (hn : n ≤ 1000000) (w : World) (h1 : SRow w g1 o1 L) (h2 : SRow w g2 o2 L) :
    Calls Tryz.prog 26 #[.slice (some ⟨g1, o1, none⟩) n c, .slice (some ⟨g2, o2, none⟩) n d] w fun e w' => e = .returned (.bool true) ∧ Gr w w' := by
  go_enter Tryz.func26, Tryz.ntmps26
  go_wp2_with fail
  go_loopw [5] (fun i wr => Same4At n w i wr) (fun i _ => n - (intOf i).toNat)
  case atStart => exact ⟨0, Nat.zero_le _, rfl, Below.refl _ _⟩
  case round =>
    obtain ⟨j, hj, rfl, hbel⟩ := hrel
    by_cases hlt : j < n
    · obtain ⟨x, hx, _, _⟩ := take_at (l := L) (j := j) (by omega)
      have c1 : wr.cell? ⟨g1, o1 + j, none⟩ = some (.string x) := (h1.gr hbel).2 j x hx
      have c2 : wr.cell? ⟨g2, o2 + j, none⟩ = some (.string x) := (h2.gr hbel).2 j x hx
      clear h1 h2 hx
      go_wp2_with fail
      go_region
      go_wp2
      refine ⟨⟨j + 1, by omega, rfl, ?_⟩, ?_⟩
      · exact hbel.drew
      · simp [intOf]; omega
    · obtain rfl : j = n := by omega
      clear h1 h2
      go_wp2
      go_ret
      exact ⟨rfl, Gr.of hbel⟩
theorem same_lies {w : World} {v1 v2 : Value} {L : List ByteArray} (hn : L.length ≤ 1000000) (h1 : Lies w v1 L) (h2 : Lies w v2 L) :
    Calls Tryz.prog 26 #[v1, v2] w fun e w' => e = .returned (.bool true) ∧ Gr w w' := by
  obtain ⟨a1, c1, rfl, _, h1⟩ := h1
  obtain ⟨a2, c2, rfl, _, h2⟩ := h2
  rcases h1 with rfl | ⟨b1, o1, rfl, r1⟩
  · exact same_none4 _ _ _ _ w
  · rcases h2 with rfl | ⟨b2, o2, rfl, r2⟩
    · exact same_none4 _ _ _ _ w
    · exact same_some4 b1 b2 o1 o2 L.length c1 c2 L rfl hn w r1 r2
end Go.Proofs.YtignfbdgpgidpaaGreatDoor
