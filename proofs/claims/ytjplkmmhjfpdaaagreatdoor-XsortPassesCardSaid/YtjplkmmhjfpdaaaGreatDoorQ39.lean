/- In one text: XsMerge, XsEnd, XsSweep, XsList, XsRoad. -/
import Derived.Test.YtjplkmmhjfpdaaaGreatDoorQ30
import Derived.Test.YtjplkmmhjfpdaaaGreatDoorQ38
import Derived.Test.YtjplkmmhjfpdaaaGreatDoorQ17
import Derived.Lib.SliceRun
import Derived.Test.YtjplkmmhjfpdaaaGreatDoorQ16
import Derived.Test.YtjplkmmhjfpdaaaGreatDoorQ28
/- A sort's steps as calls: the first files are merged, and removed; the last one gets its name. -/
namespace Go.Proofs.YtjplkmmhjfpdaaaGreatDoor
open Go.RowKit FsPlain CrcPlain OctPlain FramePlain RecPlain RdPlain RnPlain WrPlain XsPlain
set_option linter.unusedVariables false
set_option linter.unusedSimpArgs false
set_option maxRecDepth 20000
def XsMerged (D P : Nat) (s0 : St) (b0 : Bu) (C inn out : ByteArray) (size : Int) (u : Bool) (s : St) (X Y : Wq) (o : ByteArray) (M : List Asn) (w : World) (B : Nat → Prop) (e : Ending) (w' : World) : Prop :=
  ∃ s1 b1 k c er, e = .returned (.tuple #[.agg #[.int .i64 k, .int .u32 c], .int .i64 er]) ∧ ((er = 0 ∧ XsM s0 b0 out size u X Y o s1 b1 ∧ k = ((sortT (X.map (·.2)).flatten u).length : Nat) ∧ c = (sumN (sortT (X.map (·.2)).flatten u) : Nat)) ∨ (er ≠ 0 ∧ SortR s0 b0 C inn out size u s1 b1 0 0 er)) ∧ s1.calls ≤ s.calls + 1000000 ∧ ∃ B', stars ([DiskA D s1, BuA P b1] ++ M) w' B' ∧ Nx B w B' w'
theorem xs_merge_c {D P : Nat} {s0 : St} {b0 : Bu} {C inn out : ByteArray} {size : Int} {u : Bool} {L : List ByteArray} {s : St} {b : Bu} {X Y : Wq} (hJ : XsJ s0 b0 C out size u L s b (X ++ Y)) (hz : I64 size) (hCz : C.size ≤ 5000) {o : ByteArray} (how : isB o.data.toList out.data.toList = true ∧ rightB o.data.toList = true ∧ o.size ≤ 24) (hno : ∀ p ∈ X ++ Y, p.1 ≠ o) (hX : X.length ≤ 64) (h16 : 16 ≤ b0.m - b0.now) (hfan : 4 * (X.length : Int) + 4 ≤ b0.m - b0.now) (hc0 : 0 ≤ s0.calls) (hcs : s.calls ≤ s0.calls + 900000000) (hc : s.calls ≤ 900000000) {v : Value} {w : World} {B : Nat → Prop} {M : List Asn} (hM : Frs M) (hv : ∀ (wr : World) (B' : Nat → Prop), stars M wr B' → Lies wr v (X.map (·.1))) (h : stars ([DiskA D s, BuA P b] ++ M) w B) :
    Calls Tryz.prog 99 #[.pointer (some ⟨D, 0, none⟩), .pointer (some ⟨P, 0, none⟩), v, .string o, .int .i64 size, .bool u] w (XsMerged D P s0 b0 C inn out size u s X Y o M w B) := by
  obtain ⟨f1, f2, f3, f4⟩ := hJ.files hCz hno hX
  have hnone : s.get o.data.toList = Option.none := hJ.none _ how.1 fun p hp e => hno p hp (ByteArray.ext (Array.toList_inj.1 e.symm))
  refine (merge17_c hz u f1 f2 f3 how.2.2 how.2.1 hnone (by omega) hM (by rw [f4]; exact hv) h).mono ?_
  rintro e w' ⟨s', b', k, c, er, he, hR, hst⟩
  have hcc := hR.calls
  exact ⟨s', b', k, c, er, he, hJ.merge (inn := inn) how.1 hno hX h16 hfan hR (by omega), hcc, hst⟩
def XsCleared (D P : Nat) (s0 : St) (b0 : Bu) (C inn out : ByteArray) (size : Int) (u : Bool) (L : List ByteArray) (s1 : St) (b1 : Bu) (X Y : Wq) (o : ByteArray) (M : List Asn) (w : World) (B : Nat → Prop) (e : Ending) (w' : World) : Prop :=
  ∃ s2 er, e = .returned (.int .i64 er) ∧ ((er = 0 ∧ XsJ s0 b0 C out size u L s2 b1 (Y ++ [(o, sortT (X.map (·.2)).flatten u)])) ∨ (er ≠ 0 ∧ SortR s0 b0 C inn out size u s2 b1 0 0 er)) ∧ s2.calls ≤ s1.calls + 64 ∧ ∃ B', stars ([DiskA D s2, BuA P b1] ++ M) w' B' ∧ Nx B w B' w'
theorem xs_clear_c {D P : Nat} {s0 : St} {b0 : Bu} {C inn out : ByteArray} {size : Int} {u : Bool} {L : List ByteArray} {s : St} {b : Bu} {X Y : Wq} (hJ : XsJ s0 b0 C out size u L s b (X ++ Y)) {o : ByteArray} (how : isB o.data.toList out.data.toList = true ∧ rightB o.data.toList = true ∧ o.size ≤ 24) (hno : ∀ p ∈ X ++ Y, p.1 ≠ o) (hX1 : 1 ≤ X.length ∨ X ++ Y = []) (hX : X.length ≤ 64) (h16 : 16 ≤ b0.m - b0.now) (hc0 : 0 ≤ s0.calls) {s1 : St} {b1 : Bu} (hMm : XsM s0 b0 out size u X Y o s1 b1) (hcs : s1.calls ≤ s0.calls + 950000000) (hc : s1.calls ≤ 950000000) {v : Value} {w : World} {B : Nat → Prop} {M : List Asn} (hM : Frs M) (hv : ∀ (wr : World) (B' : Nat → Prop), stars M wr B' → Lies wr v (X.map (·.1))) (h : stars ([DiskA D s1, BuA P b1] ++ M) w B) :
    Calls Tryz.prog 64 #[.pointer (some ⟨D, 0, none⟩), v] w (XsCleared D P s0 b0 C inn out size u L s1 b1 X Y o M w B) := by
  have hcl := clear_calls ((X.map (·.1)).map fun n => n.data.toList) s1
  rw [List.length_map, List.length_map] at hcl
  refine (clear17_c (l := X.map (·.1)) (by rw [List.length_map]; omega) (fun n hn => by
    obtain ⟨p, hp, rfl⟩ := List.mem_map.1 hn
    obtain ⟨_, w2, w3⟩ := hJ.way p (List.mem_append_left _ hp)
    exact ⟨w2, w3⟩) (by omega) (M := BuA P b1 :: M) ⟨fr_bu _ _, hM⟩ (fun wr B' k => by
    obtain ⟨B3, h3⟩ := tail17 k
    exact hv wr B3 h3) h).mono ?_
  rintro e w' ⟨he, B', h', n'⟩
  exact ⟨_, _, he, hJ.clear (inn := inn) how hno hX1 h16 hMm rfl (by omega), by omega, B', h', n'⟩
def XsRenamed (D P : Nat) (s0 : St) (b0 : Bu) (C inn out : ByteArray) (size : Int) (u : Bool) (s : St) (b : Bu) (l : List ByteArray) (M : List Asn) (w : World) (B : Nat → Prop) (e : Ending) (w' : World) : Prop :=
  ∃ s2 er, e = .returned (.int .i64 er) ∧ ((er = 0 ∧ SortR s0 b0 C inn out size u s2 b (l.length : Nat) (sumN l : Nat) 0) ∨ (er ≠ 0 ∧ SortR s0 b0 C inn out size u s2 b 0 0 er)) ∧ ∃ B', stars ([DiskA D s2, BuA P b] ++ M) w' B' ∧ Nx B w B' w'
theorem rename_calls (s : St) (a b : List UInt8) : (renameR s a b).1.calls = s.calls + 1 := by
  unfold renameR
  split
  · rfl
  · split <;> rfl
theorem xs_rename_c {D P : Nat} {s0 : St} {b0 : Bu} {C inn out : ByteArray} {size : Int} {u : Bool} {L : List ByteArray} {s : St} {b : Bu} {o : ByteArray} {l : List ByteArray} (hJ : XsJ s0 b0 C out size u L s b [(o, l)]) (hro : rightB out.data.toList = true ∧ out.size ≤ 24) (h16 : 16 ≤ b0.m - b0.now) (hcs : s.calls ≤ s0.calls + 950000000) (hc : s.calls ≤ 950000000) {w : World} {B : Nat → Prop} {M : List Asn} (hM : Frs M) (h : stars ([DiskA D s, BuA P b] ++ M) w B) :
    Calls Tryz.prog 72 #[.pointer (some ⟨D, 0, none⟩), .string o, .string out] w (XsRenamed D P s0 b0 C inn out size u s b l M w B) := by
  obtain ⟨_, w2, w3⟩ := hJ.way (o, l) (by simp)
  have w3' : o.size ≤ 24 := w3
  refine (does_at (L := [DiskA D s, BuA P b] ++ M) (Q := DiskA D (renameR s o.data.toList out.data.toList).1) 0 rfl (frs_dm D P s b hM) h fun B1 h1 => d_rename D s o out (by omega) w2 (by have := hro.2; omega) hro.1 (by omega) w B1 h1).mono ?_
  rintro e w' ⟨he, B', h', n'⟩
  have hcr := rename_calls s o.data.toList out.data.toList
  exact ⟨_, _, he, hJ.rename (inn := inn) hro.2 h16 rfl (by omega), B', h', n'⟩
end Go.Proofs.YtjplkmmhjfpdaaaGreatDoor
/- The last file's end is read; a file of no records. -/
namespace Go.Proofs.YtjplkmmhjfpdaaaGreatDoor
open Go.RowKit FsPlain CrcPlain OctPlain FramePlain RecPlain RdPlain RnPlain WrPlain XsPlain
set_option linter.unusedVariables false
set_option linter.unusedSimpArgs false
set_option maxRecDepth 20000
namespace XsPlain
theorem XsJ.down {s0 : St} {b0 : Bu} {C inn out : ByteArray} {size : Int} {u : Bool} {L : List ByteArray} {s : St} {b : Bu} {W : Wq} (h : XsJ s0 b0 C out size u L s b W) (h16 : 16 ≤ b0.m - b0.now) (hd : s.call.down = true) (hc : s.calls + 1 ≤ s0.calls + 1000000000) : SortR s0 b0 C inn out size u s.call b 0 0 5 := by
  refine xs_err (by decide) (ok_call h.ok) h.now h.bm hc ((h.off.trans (off_call _ s)).more fun n hn => .inr hn) (fun k => by omega) (fun _ _ _ => .inr rfl) fun L' hL' _ a1 _ _ _ => ?_
  have := (calm_call (h.calm a1)).2
  rw [hd] at this
  cases this
theorem XsJ.call {s0 : St} {b0 : Bu} {C out : ByteArray} {size : Int} {u : Bool} {L : List ByteArray} {s : St} {b : Bu} {W : Wq} (h : XsJ s0 b0 C out size u L s b W) : XsJ s0 b0 C out size u L s.call b W := h.quiet (quiet_call s) (ok_call h.ok)
end XsPlain
def XsLook (D P : Nat) (s0 : St) (b0 : Bu) (C inn out : ByteArray) (size : Int) (u : Bool) (s : St) (b : Bu) (v v5 : Value) (M : List Asn) (w : World) (B : Nat → Prop) (e : Ending) (w' : World) : Prop :=
  (e = .returned (.tuple #[v, .int .i64 0]) ∨ (e = .returned (.tuple #[v5, .int .i64 5]) ∧ SortR s0 b0 C inn out size u s.call b 0 0 5)) ∧ ∃ B', stars ([DiskA D s.call, BuA P b] ++ M) w' B' ∧ Nx B w B' w'
theorem xs_size_c {D P : Nat} {s0 : St} {b0 : Bu} {C inn out : ByteArray} {size : Int} {u : Bool} {L : List ByteArray} {s : St} {b : Bu} {o : ByteArray} {l : List ByteArray} (hJ : XsJ s0 b0 C out size u L s b [(o, l)]) (h16 : 16 ≤ b0.m - b0.now) (hcs : s.calls ≤ s0.calls + 950000000) (hc : s.calls ≤ 950000000) {w : World} {B : Nat → Prop} {M : List Asn} (hM : Frs M) (h : stars ([DiskA D s, BuA P b] ++ M) w B) :
    Calls Tryz.prog 15 #[.pointer (some ⟨D, 0, none⟩), .string o] w (XsLook D P s0 b0 C inn out size u s b (.int .i64 ((layL size l).length : Nat)) (.int .i64 0) M w B) := by
  obtain ⟨_, w2, w3⟩ := hJ.way (o, l) (by simp)
  have w3' : o.size ≤ 24 := w3
  obtain ⟨f, hf, hd⟩ := hJ.has (o, l) (by simp)
  refine (does_at (L := [DiskA D s, BuA P b] ++ M) (Q := DiskA D s.call) 0 rfl (frs_dm D P s b hM) h fun B1 h1 => d_size D s o (by omega) w2 (by omega) w B1 h1).mono ?_
  rintro e w' ⟨he, B', h', n'⟩
  refine ⟨?_, B', h', n'⟩
  by_cases hdn : s.call.down = true
  · right
    refine ⟨?_, hJ.down h16 hdn (by omega)⟩
    rw [he]
    unfold sizeR
    rw [if_pos hdn]
  · left
    rw [he]
    unfold sizeR
    rw [if_neg hdn, show s.get o.data.toList = some f from hf]
    show Ending.returned (.tuple #[.int .i64 (f.data.length : Int), .int .i64 0]) = _
    rw [hd, bs_data]
theorem xs_read_c {D P : Nat} {s0 : St} {b0 : Bu} {C inn out : ByteArray} {size : Int} {u : Bool} {L : List ByteArray} {s : St} {b : Bu} {o : ByteArray} {l : List ByteArray} (hJ : XsJ s0 b0 C out size u L s b [(o, l)]) (hCz : C.size ≤ 5000) (h16 : 16 ≤ b0.m - b0.now) (hcs : s.calls ≤ s0.calls + 950000000) (hc : s.calls ≤ 950000000) {w : World} {B : Nat → Prop} {M : List Asn} (hM : Frs M) (h : stars ([DiskA D s, BuA P b] ++ M) w B) :
    Calls Tryz.prog 16 #[.pointer (some ⟨D, 0, none⟩), .string o, .int .i64 (((layL size l).length : Int) - 17), .int .i64 17] w (XsLook D P s0 b0 C inn out size u s b (.string (cl (endS l.length (sumN l)))) (.string ⟨#[]⟩) M w B) := by
  obtain ⟨_, w2, w3⟩ := hJ.way (o, l) (by simp)
  have w3' : o.size ≤ 24 := w3
  obtain ⟨f, hf, hd⟩ := hJ.has (o, l) (by simp)
  have hB : layB size l = true := (hJ.fix (o, l) (by simp)).2
  obtain ⟨q1, q2⟩ := lay_end hB
  have hsm : (layL size l).length ≤ 5000 := Nat.le_trans (hJ.small.2 (o, l) (by simp)) hCz
  have ei : ((layL size l).length : Int) - 17 = (((layL size l).length - 17 : Nat) : Int) := by omega
  rw [ei]
  refine (does_at (L := [DiskA D s, BuA P b] ++ M) (Q := DiskA D s.call) 0 rfl (frs_dm D P s b hM) h fun B1 h1 => d_read D s o ((layL size l).length - 17) 17 (by omega) w2 (by omega) (by omega) (by omega) w B1 h1).mono ?_
  rintro e w' ⟨he, B', h', n'⟩
  refine ⟨?_, B', h', n'⟩
  by_cases hdn : s.call.down = true
  · right
    refine ⟨?_, hJ.down h16 hdn (by omega)⟩
    rw [he]
    unfold readR
    rw [if_pos hdn]
    rfl
  · left
    rw [he]
    unfold readR
    have hfl : f.data.length = (layL size l).length := by rw [hd, bs_data]
    have hfd : f.data = layL size l := by rw [hd, bs_data]
    rw [if_neg hdn, show s.get o.data.toList = some f from hf]
    show Ending.returned (.tuple #[.string (bs (if f.data.length < (layL size l).length - 17 + 17 then ([], (10 : Int)) else ((f.data.drop ((layL size l).length - 17)).take 17, 0)).1), .int .i64 (if f.data.length < (layL size l).length - 17 + 17 then ([], (10 : Int)) else ((f.data.drop ((layL size l).length - 17)).take 17, 0)).2]) = _
    rw [if_neg (by omega)]
    show Ending.returned (.tuple #[.string (bs ((f.data.drop ((layL size l).length - 17)).take 17)), .int .i64 0]) = _
    rw [hfd, q2]
namespace XsPlain
end XsPlain
end Go.Proofs.YtjplkmmhjfpdaaaGreatDoor
/- The program's sweep, where no file on the way is there. -/
namespace Go.Proofs.YtjplkmmhjfpdaaaGreatDoor
open Go.RowKit FsPlain CrcPlain OctPlain FramePlain RecPlain RdPlain RnPlain WrPlain XsPlain
set_option linter.unusedVariables false
set_option linter.unusedSimpArgs false
set_option maxRecDepth 20000
theorem stays18_c (name inn out : ByteArray) (hn : name.size ≤ 1000) (ho : out.size ≤ 1000) {p q : Nat} (w : World) (c4 : w.cell? ⟨p, 0, none⟩ = some (.string inn)) (c5 : w.cell? ⟨q, 0, none⟩ = some (.string out)) (b4 : p < w.heap.size) (b5 : q < w.heap.size) (h : name = inn ∨ isB name.data.toList out.data.toList = false) :
    Calls Tryz.prog 63 #[.string name, .pointer (some ⟨p, 0, none⟩), .pointer (some ⟨q, 0, none⟩)] w fun e w' => e = .returned (.bool true) ∧ Gr w w' := by
  have IS := Lib.hid (is18_c name out hn ho w)
  by_cases e : name = inn
  · subst e
    have e1 : (name.toList == name.toList) = true := by simp
    clear h
    go_enter Tryz.func63, Tryz.ntmps63
    go_wp2_with fail
    go_ret
    exact ⟨rfl, Gr.refl _⟩
  · have hb := h.resolve_left e
    have e1 : (name.toList == inn.toList) = false := by
      rw [Lib.toList_data, Lib.toList_data]
      refine beq_eq_false_iff_ne.2 fun k => e (ByteArray.ext (Array.toList_inj.1 k))
    rw [hb] at IS
    clear h hb e
    go_enter Tryz.func63, Tryz.ntmps63
    go_wp2_with fail
    refine IS.out.mono ?_; rintro e u ⟨rfl, g⟩
    go_wp2_with fail
    go_ret
    exact ⟨rfl, g⟩
def stayF (p q : Nat) : Value := .func (.func 63) #[] #[.pointer (some ⟨p, 0, none⟩), .pointer (some ⟨q, 0, none⟩)]
theorem index18_none {p q : Nat} (a : Option Addr) (c : Nat) (w : World) : Calls Tryz.prog 89 #[.slice a 0 c, stayF p q] w fun e w' => e = .returned (.int .i64 (-1)) ∧ w' = w := by
  unfold stayF
  go_enter Tryz.func89, Tryz.ntmps89
  go_wp2_with fail
  go_loopw [8] (fun i wr => i = .int .i64 0 ∧ wr = w) (fun _ _ => 0)
  case atStart => exact ⟨rfl, rfl⟩
  case round =>
    obtain ⟨rfl, rfl⟩ := hrel
    go_wp2_with fail
    go_ret
    exact ⟨rfl, rfl⟩
theorem index18_some {p q : Nat} {b n c : Nat} {nm : ByteArray} (w : World) (hn : 0 < n) (hb : b < w.heap.size) (hc : w.cell? ⟨b, 0, none⟩ = some (.string nm)) (H : Calls Tryz.prog 63 #[.string nm, .pointer (some ⟨p, 0, none⟩), .pointer (some ⟨q, 0, none⟩)] w fun e w' => e = .returned (.bool true) ∧ Gr w w') : Calls Tryz.prog 89 #[.slice (some ⟨b, 0, none⟩) n c, stayF p q] w fun e w' => e = .returned (.int .i64 0) ∧ Gr w w' := by
  unfold stayF
  have HH := Lib.hid H
  have hnI : (0 : Int) < (n : Int) := by omega
  clear H
  go_enter Tryz.func89, Tryz.ntmps89
  go_wp2_with fail
  go_loopw [8] (fun i wr => i = .int .i64 0 ∧ wr = w) (fun _ _ => 0)
  case atStart => exact ⟨rfl, rfl⟩
  case round =>
    obtain ⟨rfl, rfl⟩ := hrel
    go_wp2_with fail
    refine HH.out.mono ?_; rintro e u ⟨rfl, g⟩
    go_wp2_with fail
    go_ret
    exact ⟨rfl, g⟩
theorem setCells_only (b : Nat) : ∀ (vs : List Value) (o : Nat) (w : World), Only (fun k => k = b) w (w.setCells b o vs)
  | [], _, w => Only.refl _ _
  | v :: r, o, w => (Only.cell1 w b o v).trans (setCells_only b r (o + 1) _)
def DelAt (w : World) (n : Nat) (i : Value) (wr : World) : Prop := ∃ j : Nat, 1 ≤ j ∧ j ≤ n ∧ i = .int .i64 (j : Int) ∧ Gr w wr
set_option maxHeartbeats 2000000 in
theorem delall18_c {p q : Nat} {v : Value} {l : List ByteArray} {w : World} {B : Nat → Prop} (hl : l.length ≤ 1000000) (hr : RowA v l w B) (H : ∀ u, Gr w u → ∀ nm ∈ l, Calls Tryz.prog 63 #[.string nm, .pointer (some ⟨p, 0, none⟩), .pointer (some ⟨q, 0, none⟩)] u fun e w' => e = .returned (.bool true) ∧ Gr u w') :
    Calls Tryz.prog 65 #[v, stayF p q] w fun e w' => ∃ a c, e = .returned (.slice a 0 c) ∧ Nx B w (fun _ => False) w' := by
  obtain ⟨a, c, rfl, hcap, _, hnone⟩ := rowE_shape hr
  rcases Nat.eq_zero_or_pos l.length with h0 | h0
  · obtain rfl : l = [] := List.eq_nil_of_length_eq_zero h0
    have IX := Lib.hid (index18_none (p := p) (q := q) a c w)
    unfold stayF at IX ⊢
    clear H hr hnone
    go_enter Tryz.func65, Tryz.ntmps65
    go_wp2_with fail
    refine IX.out.mono ?_; rintro e u ⟨rfl, rfl⟩
    go_wp2_with fail
    go_ret
    exact ⟨a, c, rfl, ⟨Only.refl _ _, fun _ h => h.elim⟩⟩
  · obtain ⟨b, c', hv, hb⟩ := rowE_form hr h0
    simp only [Value.slice.injEq] at hv
    obtain ⟨rfl, -, rfl⟩ := hv
    have hB : B b := hr.2.1 b rfl
    have CE := Lib.hid (fun (j : Nat) (hj : j < l.length) => rowE_at hr rfl (j := j) (x := .string (l[j]'hj)) (by unfold strs; rw [List.getElem?_map, List.getElem?_eq_getElem hj]; rfl))
    obtain ⟨n, hn⟩ : ∃ n, l.length = n := ⟨_, rfl⟩
    have HN := Lib.hid hn
    have HM := Lib.hid (fun (j : Nat) (hj : j < l.length) => List.getElem_mem hj)
    have HH := Lib.hid H
    have IX := Lib.hid (index18_some (p := p) (q := q) (n := n) (c := c) w (by omega) hb (CE.out 0 h0).1 (H w (Gr.refl _) _ (List.getElem_mem h0)))
    unfold stayF at IX ⊢
    rw [hn] at hl hcap ⊢
    have hnI : (n : Int) ≤ 1000000 := by omega
    have h1I : (1 : Int) ≤ (n : Int) := by omega
    have hn0 : 0 < n := by omega
    have hcn : ¬ c = 0 := by omega
    have HB := Lib.hid hB
    clear H hr hn hnone h0 hl hB
    go_enter Tryz.func65, Tryz.ntmps65
    go_wp2_with fail
    refine IX.out.mono ?_; rintro e u ⟨rfl, g⟩
    have ST := Lib.hid (show DelAt w n (.int .i64 1) u from ⟨1, Nat.le_refl _, by omega, rfl, g⟩)
    clear g IX
    go_wp2_with fail
    go_loopw [5, 6] (fun z i wr => z = .int .i64 0 ∧ DelAt w n i wr) (fun _ i _ => n - (intOf i).toNat)
    case atStart => exact ⟨rfl, ST.out⟩
    case round =>
      clear ST
      obtain ⟨rfl, j, hj1, hj2, rfl, g⟩ := hrel
      have G := Lib.hid g
      by_cases hlt : j < n
      · have hltI : (j : Int) < (n : Int) := by omega
        have hj' : j < l.length := by rw [HN.out]; exact hlt
        obtain ⟨nm, hnm⟩ : ∃ nm, l[j] = nm := ⟨_, rfl⟩
        have hmem : nm ∈ l := by rw [← hnm]; exact HM.out j hj'
        have hc : wr.cell? ⟨b, j, none⟩ = some (.string nm) := by rw [Below.cell g (p := ⟨b, j, none⟩) hb, ← hnm]; exact (CE.out j hj').1
        have C := Lib.hid (HH.out wr g nm hmem)
        have hbw : b < wr.heap.size := Nat.lt_of_lt_of_le hb g.size
        clear hnm hmem g
        go_wp2_with fail
        refine C.out.mono ?_; rintro e u2 ⟨rfl, g2⟩
        have G2 := Lib.hid (G.out.trans g2)
        clear g2
        go_wp2_with fail
        refine ⟨⟨rfl, j + 1, by omega, by omega, by first | rfl | (congr 1), G2.out⟩, ?_⟩
        simp [intOf]; omega
      · obtain rfl : j = n := by omega
        have hcl : ∀ ty, (Builtin.clear_ #[22] ty #[.slice (some ⟨b, 0, none⟩) j c]).run Tryz.prog wr = .ok (.tuple #[]) (wr.setCells b 0 (List.replicate j (.string ⟨#[]⟩))) := fun ty =>
          Lib.run_clear_slice wr 22 9 ty (.string ⟨#[]⟩) Tryz.underlying22 Tryz.zeroValue9 rfl rfl b 0 j c hn0 (fun t ht => by
            rw [Nat.zero_add, Below.cell g (p := ⟨b, t, none⟩) hb, (CE.out t (by rw [HN.out]; exact ht)).1]; rfl) (fun t ht => by
            rw [Nat.zero_add, Below.frozen g (p := ⟨b, t, none⟩) hb]; exact (CE.out t (by rw [HN.out]; exact ht)).2)
        have FIN := Lib.hid (show Nx B w (fun _ => False) (wr.setCells b 0 (List.replicate j (.string ⟨#[]⟩))) from ⟨(Only.ofGr g).trans ((setCells_only b _ 0 wr).mono fun i e => by rw [e]; exact HB.out), fun _ h => h.elim⟩)
        clear g
        go_wp2_with fail
        go_ret
        exact ⟨_, _, rfl, FIN.out⟩
end Go.Proofs.YtjplkmmhjfpdaaaGreatDoor
/- List, its row apart from the disk; the program's sweep, where no file on the way is there. -/
namespace Go.Proofs.YtjplkmmhjfpdaaaGreatDoor
open Go.RowKit FsPlain CrcPlain OctPlain FramePlain RecPlain RdPlain RnPlain WrPlain XsPlain
set_option linter.unusedVariables false
set_option linter.unusedSimpArgs false
set_option maxRecDepth 20000
def Listed18 (p : Nat) (s : St) (B : Nat → Prop) (w : World) (e : Ending) (w' : World) : Prop :=
  (s.call.down = true ∧ e = .returned (.tuple #[.slice none 0 0, .int .i64 5]) ∧ Next w p s.call B w') ∨
    (s.call.down = false ∧ ∃ v, e = .returned (.tuple #[v, .int .i64 0]) ∧ ∃ B', star (DiskA p s.call) (RowA v (listN s)) w' B' ∧ Nx B w B' w')
set_option maxHeartbeats 1000000 in
theorem list18_c (p : Nat) (s : St) (B : Nat → Prop) (w : World) (h : Disk w p s B) (h1 : s.calls ≤ 1000000000000) :
    Calls Tryz.prog 17 #[.pointer (some ⟨p, 0, none⟩)] w (Listed18 p s B w) := by
  obtain ⟨hs, m, L, hD⟩ := h
  have C := call_yes p m s w hD.heap (by have := hs.c0; omega) h1 (by have := hs.a0; omega) (by have := hs.a1; omega)
  have HS := Lib.hid hs
  have HD := Lib.hid hD
  clear hD hs
  have hc : s.call.code = if s.call.down = true then 5 else 0 := rfl
  cases hd : s.call.down
  · rw [hd] at hc
    rw [show s.call.code = 0 from hc] at C
    have HDN := Lib.hid hd
    clear hc hd
    go_enter Tryz.func17, Tryz.ntmps17
    go_wp2_with fail
    refine C.mono ?_; rintro e w2 ⟨rfl, k⟩
    have HK := Lib.hid k
    have D2 := Lib.hid (HD.out.called k)
    have N2 := Lib.hid (next_called HS.out D2.out k.2)
    have CN := Lib.hid (names_c p m s.call B L w2 (ok_call HS.out) D2.out)
    clear k C
    go_wp2_with fail
    refine (CN.out).mono ?_; rintro e w3 ⟨v, rfl, ho, g⟩
    have HO := Lib.hid ho
    have G := Lib.hid g
    have sh : ∃ a n c, v = .slice a n c := by
      rcases ho.2 with ⟨e, _⟩ | ⟨g, cap, cur, e, _⟩
      · exact ⟨none, 0, 0, e⟩
      · exact ⟨_, _, _, e⟩
    obtain ⟨a, n, c, rfl⟩ := sh
    clear ho g
    go_wp2_with fail
    go_ret2
    refine .inr ⟨HDN.out, _, rfl, ?_⟩
    obtain ⟨B', hdk, hol, hnw⟩ := N2.out
    have hfs : (L.map fun x => x.f.name) = s.fs.map fun f => f.name := by
      have h := D2.out.fs
      have h2 := congrArg (List.map fun f : F => f.name) h
      rw [List.map_map] at h2
      exact h2
    have ho := HO.out
    rw [hfs] at ho
    have e1 : strs (listN s) = ((s.fs.map fun f => f.name).mergeSort (fun x y => decide (x ≤ y))).map encStr := by
      unfold strs listN
      rw [List.map_map]
      rfl
    have e2 : (listN s).length = ((s.fs.map fun f => f.name).mergeSort (fun x y => decide (x ≤ y))).length := by unfold listN; rw [List.length_map]
    rw [← e1, ← e2] at ho
    obtain ⟨B2, k2, n2⟩ := row_of_own ho
    have hlow := fun b hb => Disk.low hdk b hb
    have hws : w.heap.size ≤ w2.heap.size := HK.out.2.size
    refine ⟨fun b => B' b ∨ B2 b, ⟨B', B2, hdk.only (Only.ofGr (B := fun _ => False) G.out) (fun _ _ e => e), k2, fun b h1 h2 => by have := hlow b h1; have := n2 b h2; omega, fun _ => Iff.rfl⟩, hol.trans (Only.ofGr G.out), fun b hb => ?_⟩
    rcases hb with hb | hb
    · exact hnw b hb
    · exact .inr (Nat.le_trans hws (n2 b hb))
  · rw [hd] at hc
    rw [show s.call.code = 5 from hc] at C
    have HDN := Lib.hid hd
    clear hc hd
    go_enter Tryz.func17, Tryz.ntmps17
    go_wp2_with fail
    refine C.mono ?_; rintro e w2 ⟨rfl, k⟩
    have N2 := Lib.hid (next_called HS.out (HD.out.called k) k.2)
    clear k C
    go_wp2_with fail
    go_ret2
    exact .inl ⟨HDN.out, rfl, N2.out⟩
theorem list_is {s : St} {n : ByteArray} (h : n ∈ listN s) : ∃ f ∈ s.fs, n = bs f.name := by
  unfold listN at h
  obtain ⟨x, hx, rfl⟩ := List.mem_map.1 h
  rw [List.mem_mergeSort] at hx
  obtain ⟨f, hf, rfl⟩ := List.mem_map.1 hx
  exact ⟨f, hf, rfl⟩
def SweepGot (D P : Nat) (s : St) (b : Bu) (M : List Asn) (w : World) (B : Nat → Prop) (e : Ending) (w' : World) : Prop :=
  ∃ er, e = .returned (.int .i64 er) ∧ (er = 0 ∨ (er = 5 ∧ s.call.down = true)) ∧ ∃ B', stars ([DiskA D s.call, BuA P b] ++ M) w' B' ∧ Nx B w B' w'
set_option maxHeartbeats 4000000 in
theorem sweep18_c {D P : Nat} {s : St} {b : Bu} {inn out : ByteArray} (hN : Names18 s inn out) (hc : s.calls ≤ 1000000) {w : World} {B : Nat → Prop} {M : List Asn} (hM : Frs M) (h : stars ([DiskA D s, BuA P b] ++ M) w B) :
    Calls Tryz.prog 40 #[.pointer (some ⟨D, 0, none⟩), .string inn, .string out] w (SweepGot D P s b M w B) := by
  have hsok : s.ok := by
    obtain ⟨_, hd, _⟩ := part_at 0 rfl h
    exact hd.1
  have hnm : ∀ n ∈ listN s, n.size ≤ 24 ∧ isB n.data.toList out.data.toList = false := fun n hn => by
    obtain ⟨f, hf, rfl⟩ := list_is hn
    refine ⟨by have := hsok.n f hf; simpa [bs, ByteArray.size] using this, ?_⟩
    cases hb : isB (bs f.name).data.toList out.data.toList
    · rfl
    · have := hN.free _ hb
      rw [bs_data, (mem_get hsok).1 hf] at this
      cases this
  have hll : (listN s).length ≤ 1000000 := by rw [listN_length]; have := hsok.m; omega
  obtain ⟨W, hW⟩ : ∃ W, W = (w.alloc (.cells #[.string inn] 9)).alloc (.cells #[.string out] 9) := ⟨_, rfl⟩
  obtain ⟨BW, kW, nW⟩ : ∃ B', stars (Blk (w.heap.size + 1) #[.string out] 9 :: Blk w.heap.size #[.string inn] 9 :: ([DiskA D s, BuA P b] ++ M)) W B' ∧ Nx B w B' W := by
    rw [hW]
    obtain ⟨B3, k3, n3⟩ := part_new (P := Blk w.heap.size #[.string inn] 9) (B' := fun b => b = w.heap.size) (frs_dm D P s b hM) h (gral17 w (.cells #[.string inn] 9)) ⟨heap_alloc_new w _, fun _ => Iff.rfl⟩ (fun b hb => by rw [hb]; exact Nat.le_refl _)
    obtain ⟨B4, k4, n4⟩ := part_new (P := Blk (w.heap.size + 1) #[.string out] 9) (B' := fun b => b = w.heap.size + 1) (L := Blk w.heap.size #[.string inn] 9 :: ([DiskA D s, BuA P b] ++ M)) ⟨fr_blk _ _ _, frs_dm D P s b hM⟩ k3 (gral17 _ (.cells #[.string out] 9)) ⟨by rw [← World.size_alloc w (.cells #[.string inn] 9)]; exact heap_alloc_new _ _, fun _ => Iff.rfl⟩ (fun b hb => by rw [hb, World.size_alloc]; exact Nat.le_refl _)
    exact ⟨B4, k4, n3.trans n4⟩
  have hhs : W.heap.size = w.heap.size + 2 := by rw [hW]; simp
  have hsz1 : out.size ≤ 1000 := by have := hN.ro.2; omega
  -- List at W
  have LC : Calls Tryz.prog 17 #[.pointer (some ⟨D, 0, none⟩)] W fun e w' => (s.call.down = true ∧ e = .returned (.tuple #[.slice none 0 0, .int .i64 5]) ∧ ∃ B', stars ([DiskA D s.call, BuA P b] ++ M) w' B' ∧ Nx B w B' w') ∨ (s.call.down = false ∧ ∃ a n c, e = .returned (.tuple #[.slice a n c, .int .i64 0]) ∧ ∃ B', stars (RowA (.slice a n c) (listN s) :: Blk (w.heap.size + 1) #[.string out] 9 :: Blk w.heap.size #[.string inn] 9 :: ([DiskA D s.call, BuA P b] ++ M)) w' B' ∧ Nx B w B' w') := by
    have FR : Frs (Blk (w.heap.size + 1) #[.string out] 9 :: Blk w.heap.size #[.string inn] 9 :: BuA P b :: M) := ⟨fr_blk _ _ _, fr_blk _ _ _, fr_bu _ _, hM⟩
    have k2 : stars (DiskA D s :: Blk (w.heap.size + 1) #[.string out] 9 :: Blk w.heap.size #[.string inn] 9 :: BuA P b :: M) W BW := stars_perm (List.perm_middle (l₁ := [Blk (w.heap.size + 1) #[.string out] 9, Blk w.heap.size #[.string inn] 9])) kW
    obtain ⟨B1, B2, h1, h2, ap, eq⟩ := k2
    refine (list18_c D s B1 W h1 (by omega)).mono ?_
    rintro e w' (⟨hd, he, B', hD, hO, hn⟩ | ⟨hd, v, he, B', hS, hO, hn⟩)
    · left
      obtain ⟨B3, k3, n3⟩ := star_of (fr_stars FR) h2 ap eq (show DiskA D s.call w' B' from hD) ⟨hO, hn⟩
      obtain ⟨B4, k4, n4⟩ := stars_drop (P := Blk (w.heap.size + 1) #[.string out] 9) (stars_perm (List.Perm.swap _ _ _) (show stars (DiskA D s.call :: Blk (w.heap.size + 1) #[.string out] 9 :: Blk w.heap.size #[.string inn] 9 :: BuA P b :: M) w' B3 from k3))
      obtain ⟨B5, k5, n5⟩ := stars_drop (P := Blk w.heap.size #[.string inn] 9) (stars_perm (List.Perm.swap _ _ _) k4)
      exact ⟨hd, he, B5, k5, (nW.trans n3).trans (n4.trans n5)⟩
    · right
      have sh : ∃ a n c, v = .slice a n c := by
        obtain ⟨_, _, _, hr, _, _⟩ := hS
        obtain ⟨a, c, e, _⟩ := rowE_shape hr
        exact ⟨a, _, c, e⟩
      obtain ⟨a, n, c, rfl⟩ := sh
      obtain ⟨B3, k3, n3⟩ := star_of (Q := star (DiskA D s.call) (RowA (.slice a n c) (listN s))) (fr_stars FR) h2 ap eq hS ⟨hO, hn⟩
      refine ⟨hd, a, n, c, he, B3, ?_, nW.trans n3⟩
      have k4 : stars (DiskA D s.call :: RowA (.slice a n c) (listN s) :: Blk (w.heap.size + 1) #[.string out] 9 :: Blk w.heap.size #[.string inn] 9 :: BuA P b :: M) w' B3 := star_left k3
      exact stars_perm (List.perm_middle (l₁ := [RowA (.slice a n c) (listN s), Blk (w.heap.size + 1) #[.string out] 9, Blk w.heap.size #[.string inn] 9])).symm k4
  have LCH := Lib.hid LC
  have NM := Lib.hid hnm
  have K := Lib.hid (show Frs M ∧ (listN s).length ≤ 1000000 ∧ out.size ≤ 1000 ∧ s.calls ≤ 1000000 from ⟨hM, hll, hsz1, hc⟩)
  have HW := Lib.hid hW
  clear hN hc hM h hsok hnm hll kW nW hhs hsz1 LC hW
  go_enter Tryz.func40, Tryz.ntmps40
  go_wp2_with fail
  rw [← HW.out]
  refine LCH.out.mono ?_
  rintro e w1 (⟨hd, rfl, B1, k1, n1⟩ | ⟨hd, a, n, c, rfl, B1, k1, n1⟩)
  · have K1 := Lib.hid (show SweepGot D P s b M w B (.returned (.int .i64 5)) w1 from ⟨5, rfl, .inr ⟨rfl, hd⟩, B1, k1, n1⟩)
    clear hd k1 n1 LCH
    go_wp2_with fail
    go_ret
    exact K1.out
  · have FR2 : Frs (Blk (w.heap.size + 1) #[.string out] 9 :: Blk w.heap.size #[.string inn] 9 :: ([DiskA D s.call, BuA P b] ++ M)) := ⟨fr_blk _ _ _, fr_blk _ _ _, frs_dm D P s.call b K.out.1⟩
    have DEL : Calls Tryz.prog 65 #[.slice a n c, stayF w.heap.size (w.heap.size + 1)] w1 fun e w' => ∃ a c, e = .returned (.slice a 0 c) ∧ ∃ B', stars ([DiskA D s.call, BuA P b] ++ M) w' B' ∧ Nx B w B' w' := by
      obtain ⟨_, q5, _⟩ := part_at 1 rfl k1
      obtain ⟨_, q4, _⟩ := part_at 2 rfl k1
      have l4 := lt_of_block q4.1
      have l5 := lt_of_block q5.1
      have c4 : w1.cell? ⟨w.heap.size, 0, none⟩ = some (.string inn) := by rw [cells_at q4.1]; rfl
      have c5 : w1.cell? ⟨w.heap.size + 1, 0, none⟩ = some (.string out) := by rw [cells_at q5.1]; rfl
      obtain ⟨C1, C2, h1, h2, ap, eq⟩ := k1
      refine (delall18_c (p := w.heap.size) (q := w.heap.size + 1) K.out.2.1 h1 fun u g nm hm => ?_).mono ?_
      · obtain ⟨z1, z2⟩ := NM.out nm hm
        exact stays18_c nm inn out (by omega) K.out.2.2.1 u (by rw [Below.cell g (p := ⟨w.heap.size, 0, none⟩) l4]; exact c4) (by rw [Below.cell g (p := ⟨w.heap.size + 1, 0, none⟩) l5]; exact c5) (Nat.lt_of_lt_of_le l4 g.size) (Nat.lt_of_lt_of_le l5 g.size) (.inr z2)
      · rintro e w' ⟨a', c', he, nn⟩
        obtain ⟨B3, k3, n3⟩ := star_of (Q := emp) (fr_stars FR2) h2 ap eq (fun _ h => h) nn
        obtain ⟨B4, k4, n4⟩ := stars_drop (P := emp) (L := Blk (w.heap.size + 1) #[.string out] 9 :: Blk w.heap.size #[.string inn] 9 :: ([DiskA D s.call, BuA P b] ++ M)) k3
        obtain ⟨B5, k5, n5⟩ := stars_drop k4
        obtain ⟨B6, k6, n6⟩ := stars_drop k5
        exact ⟨a', c', he, B6, k6, n1.trans (n3.trans (n4.trans (n5.trans n6)))⟩
    unfold stayF at DEL
    have DH := Lib.hid DEL
    clear hd k1 n1 LCH DEL FR2
    go_wp2_with fail
    refine DH.out.mono ?_
    rintro e w2 ⟨a', c', rfl, B2, k2, n2⟩
    have CL := Lib.hid (clear17_c (D := D) (s := s.call) (l := []) (v := .slice a' 0 c') (by simp) (fun _ h => by simp at h) (by show s.calls + 1 ≤ _; have := K.out.2.2.2; omega) (M := BuA P b :: M) ⟨fr_bu _ _, K.out.1⟩ (fun wr B' _ => ⟨a', c', rfl, Nat.zero_le _, .inl rfl⟩) k2)
    have N2 := Lib.hid n2
    clear k2 n2 DH
    go_wp2_with fail
    refine CL.out.mono ?_
    rintro e w3 ⟨rfl, B3, k3, n3⟩
    have K3 := Lib.hid (show SweepGot D P s b M w B (.returned (.int .i64 0)) w3 from ⟨0, rfl, .inl rfl, B3, k3, N2.out.trans n3⟩)
    clear k3 n3
    go_wp2_with fail
    go_ret
    exact K3.out
end Go.Proofs.YtjplkmmhjfpdaaaGreatDoor
/- The road of a sort: the next name; several files become one. -/
namespace Go.Proofs.YtjplkmmhjfpdaaaGreatDoor
open Go.RowKit FsPlain CrcPlain OctPlain FramePlain RecPlain RdPlain RnPlain WrPlain XsPlain
set_option linter.unusedVariables false
set_option linter.unusedSimpArgs false
set_option maxRecDepth 20000
def roadC (D P : Nat) (pre : ByteArray) (size : Int) (u : Bool) (n : Nat) : Array Value := #[.pointer (some ⟨D, 0, none⟩), .pointer (some ⟨P, 0, none⟩), .string pre, .int .i64 size, .bool u, .int .i64 (n : Int)]
def RoadA (X D P : Nat) (pre : ByteArray) (size : Int) (u : Bool) (n : Nat) : Asn := Blk X (roadC D P pre size u n) 82
theorem fr_road (X D P : Nat) (pre : ByteArray) (size : Int) (u : Bool) (n : Nat) : Fr (RoadA X D P pre size u n) := fr_blk _ _ _
theorem road_at {X D P : Nat} {pre : ByteArray} {size : Int} {u : Bool} {n : Nat} {w : World} {B : Nat → Prop} (h : RoadA X D P pre size u n w B) : w.cell? ⟨X, 0, none⟩ = some (.pointer (some ⟨D, 0, none⟩)) ∧ w.cell? ⟨X, 1, none⟩ = some (.pointer (some ⟨P, 0, none⟩)) ∧ w.cell? ⟨X, 2, none⟩ = some (.string pre) ∧ w.cell? ⟨X, 3, none⟩ = some (.int .i64 size) ∧ w.cell? ⟨X, 4, none⟩ = some (.bool u) ∧ w.cell? ⟨X, 5, none⟩ = some (.int .i64 (n : Int)) :=
  ⟨by rw [cells_at h.1]; rfl, by rw [cells_at h.1]; rfl, by rw [cells_at h.1]; rfl, by rw [cells_at h.1]; rfl, by rw [cells_at h.1]; rfl, by rw [cells_at h.1]; rfl⟩
theorem next18_c {X D P : Nat} {pre : ByteArray} {size : Int} {u : Bool} {n : Nat} (hp : pre.size ≤ 100) (hn : n ≤ 100000) {w : World} {B : Nat → Prop} (hT : Tab w) (h : RoadA X D P pre size u n w B) :
    Calls Tryz.prog 68 #[.pointer (some ⟨X, 0, none⟩)] w (Does w B (RoadA X D P pre size u (n + 1)) (.string (nameN pre (n : Int)))) := by
  have hb := h.1
  have hlt := lt_of_block hb
  have S0 : ∀ v, Gr w v → Gr w v ∧ v.cell? ⟨X, 2, none⟩ = some (.string pre) ∧ v.cell? ⟨X, 5, none⟩ = some (.int .i64 (n : Int)) := fun v g => by
    obtain ⟨_, _, c2, _, _, c5⟩ := road_at (star_gr (fr_road X D P pre size u n) h g)
    exact ⟨g, c2, c5⟩
  have CN := Lib.hid (fun (v : World) (g : Gr w v) => (name16_c pre (n : Int) (by omega) (by omega) v (hT.gr g)).mono fun e w' ⟨he, g'⟩ => (⟨he, S0 w' (g.trans g')⟩ : _ ∧ _))
  obtain ⟨nm, hnm⟩ : ∃ nm, nameN pre (n : Int) = nm := ⟨_, rfl⟩
  rw [hnm] at CN ⊢
  have KS := Lib.hid S0
  have HR := Lib.hid (fun (v : World) (g : Gr w v) => star_gr (fr_road X D P pre size u n) h g)
  have gU := Gr.refl w
  have gUd : Gr w w.drew := Below.drew gU
  have hnI : (n : Int) ≤ 100000 := by omega
  clear S0 hb hT h hnm hp hn
  go_enter Tryz.func68, Tryz.ntmps68
  go_wp2_with fail
  go_region_held3 (fun w' => Gr w w' ∧ w'.cell? ⟨X, 2, none⟩ = some (.string pre) ∧ w'.cell? ⟨X, 5, none⟩ = some (.int .i64 (n : Int))) (first | exact KS.out _ gUd | exact KS.out _ (by assumption) | assumption | go_keep)
    ((go_at_call 97; (with_reducible refine (CN.out _ (by assumption)).mono ?_); rintro e t2 ⟨rfl, hst⟩))
  obtain ⟨g2, c2, c5⟩ := hst
  have h2 := HR.out _ g2
  have f5 := cells_free h2.1 5
  have FIN := Lib.hid (show ∃ B', RoadA X D P pre size u (n + 1) (t2.setCell ⟨X, 5, none⟩ (.int .i64 ((n : Int) + 1))) B' ∧ Nx B w B' (t2.setCell ⟨X, 5, none⟩ (.int .i64 ((n : Int) + 1))) from by
    obtain ⟨B', q, m⟩ := blk_next (i := 5) h2 (.int .i64 ((n : Int) + 1))
    exact ⟨B', q, (Nx.gr g2).trans m⟩)
  clear h2 g2 CN HR KS
  go_wp2_with fail
  go_ret
  exact ⟨rfl, FIN.out⟩
end Go.Proofs.YtjplkmmhjfpdaaaGreatDoor
