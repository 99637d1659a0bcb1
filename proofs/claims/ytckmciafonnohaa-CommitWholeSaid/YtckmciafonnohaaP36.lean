/- In one text: CmA. -/
import Derived.Test.YtckmciafonnohaaP35
import Derived.Test.YtckmciafonnohaaP09
import Derived.Test.YtckmciafonnohaaP10
import Derived.Test.YtckmciafonnohaaP08
/- The program's layer 20: look, and the steps of a save. -/
namespace Go.Proofs.Ytckmciafonnohaa
open Go.RowKit FsPlain CrcPlain OctPlain MnPlain CmPlain
set_option linter.unusedVariables false
set_option linter.unusedSimpArgs false
set_option maxRecDepth 20000
namespace CmPlain
/-- What look tells: how long, whether it is there, the error. -/
def lookN (s : St) (n : List UInt8) : Int := if (sizeR s n).2 = 2 then 0 else (sizeR s n).1
def lookB (s : St) (n : List UInt8) : Bool := decide ((sizeR s n).2 = 0)
def lookC (s : St) (n : List UInt8) : Int := if (sizeR s n).2 = 2 then 0 else (sizeR s n).2
/-- The step at i of a save. -/
def nxtR (x : List UInt8) (i : Nat) (b : Bool) (t : St) : St × Int := match i with
  | 0 => (t.call, lookC t wayL)
  | 1 => if b = true then removeR t wayL else (t, 0)
  | 2 => createR t wayL
  | 3 => appendR t wayL x
  | 4 => syncR t wayL
  | _ => renameR t wayL nameL
def nxtB (i : Nat) (b : Bool) (t : St) : Bool := match i with
  | 0 => lookB t wayL
  | _ => b
/-- The last k steps. -/
def finR (x : List UInt8) : Nat → Bool → St → St × Int
  | 0, _, t => (t, 0)
  | k + 1, b, t => thenR (nxtR x (5 - k) b t) fun t' => finR x k (nxtB (5 - k) b t) t'
theorem thenR_assoc (a : St × Int) (f g : St → St × Int) : thenR (thenR a f) g = thenR a fun t => thenR (f t) g := by
  by_cases h : a.2 = 0
  · rw [thenR_yes h, thenR_yes h]
  · rw [thenR_no h, thenR_no h, thenR_no h]
theorem thenR_zero (t : St) (f : St → St × Int) : thenR (t, 0) f = f t := rfl
theorem thenR_id (a : St × Int) : thenR a (fun t => (t, 0)) = a := by
  obtain ⟨t, c⟩ := a
  by_cases h : c = 0
  · subst h; rfl
  · exact thenR_no h
theorem fin_save (s : St) (x : List UInt8) : finR x 6 false s = saveS s x := by
  have hg : thenR (s.call, lookC s wayL) (fun t => if lookB s wayL = true then removeR t wayL else (t, 0)) = goneR s := by
    unfold goneR lookB lookC
    by_cases e0 : (sizeR s wayL).2 = 0
    · rw [if_pos e0, if_neg (by rw [e0]; decide), e0, thenR_zero]; simp
    · by_cases e2 : (sizeR s wayL).2 = 2
      · rw [if_neg e0, if_pos e2, if_pos e2, thenR_zero, if_neg (by simpa using e0)]
      · rw [if_neg e0, if_neg e2, if_neg e2, thenR_no e0]
  unfold saveS
  rw [← hg]
  simp only [thenR_assoc]
  simp only [finR, nxtR, nxtB, thenR_id]
  rfl
theorem nxt_calls (x : List UInt8) (i : Nat) (b : Bool) (t : St) : (nxtR x i b t).1.calls ≤ t.calls + 1 := by
  unfold nxtR
  split
  · show t.calls + 1 ≤ _; omega
  · split
    · rw [calls_remove]; omega
    · show t.calls ≤ _; omega
  · rw [calls_create]; omega
  · rw [calls_append]; omega
  · rw [calls_sync]; omega
  · rw [calls_rename]; omega
end CmPlain
set_option maxHeartbeats 2000000 in
theorem look_c (p : Nat) (s : St) (n : ByteArray) (hn : n.size ≤ 1000) (hm : rightB n.data.toList = true) (h1 : s.calls ≤ 1000000000000) (w : World) (B : Nat → Prop) (h : DiskA p s w B) :
    Calls Try.prog 19 #[.pointer (some ⟨p, 0, none⟩), .string n] w (Does w B (DiskA p s.call) (.tuple #[.int .i64 (lookN s n.data.toList), .bool (lookB s n.data.toList), .int .i64 (lookC s n.data.toList)])) := by
  have SZ := d_size p s n hn hm h1 w B h
  unfold lookN lookB lookC
  obtain ⟨k, hk⟩ : ∃ k, (sizeR s n.data.toList).1 = k := ⟨_, rfl⟩
  obtain ⟨c, hc⟩ : ∃ c, (sizeR s n.data.toList).2 = c := ⟨_, rfl⟩
  rw [hk, hc] at SZ ⊢
  have SZ := Lib.hid SZ
  clear hk hc hm h1 h hn
  by_cases e2 : c = 2
  · subst e2
    rw [if_pos rfl, if_pos rfl]
    have q0 : decide ((2 : Int) = 0) = false := by decide
    rw [q0]
    go_enter Try.func19, Try.ntmps19
    go_wp2_with fail
    refine SZ.out.mono ?_; rintro e u ⟨rfl, D⟩
    have D := Lib.hid D
    go_wp2_with fail
    exact bodyPost_ret (v := .tuple #[.int .i64 0, .bool false, .int .i64 0]) (by simp [results, Try.results19, go_sem]) rfl ⟨rfl, D.out⟩
  · rw [if_neg e2, if_neg e2]
    have q2 : (c == 2) = false := by simpa using e2
    obtain ⟨b, hb⟩ : ∃ b, decide (c = 0) = b := ⟨_, rfl⟩
    have q0 : (c == 0) = b := by rw [← hb]; rfl
    rw [hb]
    clear hb e2
    go_enter Try.func19, Try.ntmps19
    go_wp2_with fail
    refine SZ.out.mono ?_; rintro e u ⟨rfl, D⟩
    have D := Lib.hid D
    go_wp2_with fail
    exact bodyPost_ret (v := .tuple #[.int .i64 k, .bool b, .int .i64 c]) (by simp [results, Try.results19, go_sem]) rfl ⟨rfl, D.out⟩
/-- What a save makes of its own: the steps, whether the file on the way is there, the bytes, the disk. -/
def stepsV (th S0 D0 : Nat) : Array Value := #[.func (.func 27) #[] #[.pointer (some ⟨D0, 0, none⟩), .pointer (some ⟨th, 0, none⟩)], .func (.func 28) #[] #[.pointer (some ⟨th, 0, none⟩), .pointer (some ⟨D0, 0, none⟩)], .func (.func 30) #[] #[.pointer (some ⟨D0, 0, none⟩)], .func (.func 32) #[] #[.pointer (some ⟨D0, 0, none⟩), .pointer (some ⟨S0, 0, none⟩)], .func (.func 34) #[] #[.pointer (some ⟨D0, 0, none⟩)], .func (.func 36) #[] #[.pointer (some ⟨D0, 0, none⟩)]]
def StL (p F th S0 D0 : Nat) (x : ByteArray) (t : St) (b : Bool) : List Asn := [DiskA p t, Blk F (stepsV th S0 D0) 49, Blk th #[.bool b] 4, Blk S0 #[.string x] 9, Blk D0 #[.pointer (some ⟨p, 0, none⟩)] 25]
theorem stl_at {A : Nat → Prop} {p F th S0 D0 : Nat} {x : ByteArray} {t : St} {b : Bool} {w u : World} (h : Qs A (StL p F th S0 D0 x t b) w u) : u.cell? ⟨D0, 0, none⟩ = some (.pointer (some ⟨p, 0, none⟩)) ∧ u.cell? ⟨S0, 0, none⟩ = some (.string x) ∧ u.cell? ⟨th, 0, none⟩ = some (.bool b) ∧ u.frozen? ⟨th, 0, none⟩ = false :=
  ⟨by rw [cells_at (h.blk 4 rfl)]; rfl, by rw [cells_at (h.blk 3 rfl)]; rfl, by rw [cells_at (h.blk 2 rfl)]; rfl, cells_free (h.blk 2 rfl) 0⟩
section
variable {A : Nat → Prop} {p F th S0 D0 : Nat} {x : ByteArray} {t : St} {b : Bool} {w u : World}
theorem stl_call {f : FuncId} {args : Array Value} {v : Value} {t' : St} (h : Qs A (StL p F th S0 D0 x t b) w u) (C : ∀ B1, DiskA p t u B1 → Calls Try.prog f args u (Does u B1 (DiskA p t') v)) : Calls Try.prog f args u fun e w' => e = .returned v ∧ Qs A (StL p F th S0 D0 x t' b) w w' :=
  Qs.call0 (X := fun e _ => e = .returned v) h (fr_disk p t') C
theorem st1_c (h : Qs A (StL p F th S0 D0 x t b) w u) (h1 : t.calls ≤ 1000000000000) : Calls Try.prog 27 #[.pointer (some ⟨D0, 0, none⟩), .pointer (some ⟨th, 0, none⟩)] u fun e w' => e = .returned (.int .i64 (nxtR x.data.toList 0 b t).2) ∧ Qs A (StL p F th S0 D0 x (nxtR x.data.toList 0 b t).1 (nxtB 0 b t)) w w' := by
  obtain ⟨k0, _, _, _⟩ := stl_at h
  have C := Lib.hid (stl_call h fun B1 hp => look_c p t wayS (by decide) way_right h1 u B1 hp)
  show Calls _ _ _ _ fun e w' => e = .returned (.int .i64 (lookC t wayL)) ∧ Qs A (StL p F th S0 D0 x t.call (lookB t wayL)) w w'
  rw [show wayS.data.toList = wayL from rfl] at C
  obtain ⟨ln, hln⟩ : ∃ r, lookN t wayL = r := ⟨_, rfl⟩
  obtain ⟨lb, hlb⟩ : ∃ r, lookB t wayL = r := ⟨_, rfl⟩
  obtain ⟨lc, hlc⟩ : ∃ r, lookC t wayL = r := ⟨_, rfl⟩
  rw [hln, hlb, hlc] at C
  rw [hlb, hlc]
  clear hln hlb hlc h h1
  go_enter Try.func27, Try.ntmps27
  go_wp2_with fail
  refine C.out.mono ?_; rintro e u1 ⟨rfl, d⟩
  obtain ⟨_, _, c0, f0⟩ := stl_at d
  have D := Lib.hid (show Qs A (StL p F th S0 D0 x t.call lb) w (u1.setCell ⟨th, 0, none⟩ (.bool lb)) from d.set 2 rfl 0 (.bool lb))
  clear d k0
  go_wp2_with fail
  go_ret
  exact ⟨rfl, D.out⟩
theorem st2_c (h : Qs A (StL p F th S0 D0 x t b) w u) (h1 : t.calls ≤ 1000000000000) : Calls Try.prog 28 #[.pointer (some ⟨th, 0, none⟩), .pointer (some ⟨D0, 0, none⟩)] u fun e w' => e = .returned (.int .i64 (nxtR x.data.toList 1 b t).2) ∧ Qs A (StL p F th S0 D0 x (nxtR x.data.toList 1 b t).1 (nxtB 1 b t)) w w' := by
  obtain ⟨k0, _, k2, _⟩ := stl_at h
  cases b with
  | true =>
    have C := Lib.hid (stl_call h fun B1 hp => d_remove p t wayS (by decide) way_right h1 u B1 hp)
    show Calls _ _ _ _ fun e w' => e = .returned (.int .i64 (removeR t wayL).2) ∧ Qs A (StL p F th S0 D0 x (removeR t wayL).1 true) w w'
    clear h h1
    go_enter Try.func28, Try.ntmps28
    go_wp2_with fail
    refine C.out.mono ?_; rintro e u1 ⟨rfl, d⟩
    have D := Lib.hid d
    clear d k0 k2
    go_wp2_with fail
    go_ret
    exact ⟨rfl, D.out⟩
  | false =>
    have D := Lib.hid h
    show Calls _ _ _ _ fun e w' => e = .returned (.int .i64 0) ∧ Qs A (StL p F th S0 D0 x t false) w w'
    clear h h1
    go_enter Try.func28, Try.ntmps28
    go_wp2_with fail
    go_ret
    exact ⟨rfl, D.out⟩
theorem st3_c (h : Qs A (StL p F th S0 D0 x t b) w u) (h1 : t.calls ≤ 1000000000000) : Calls Try.prog 30 #[.pointer (some ⟨D0, 0, none⟩)] u fun e w' => e = .returned (.int .i64 (nxtR x.data.toList 2 b t).2) ∧ Qs A (StL p F th S0 D0 x (nxtR x.data.toList 2 b t).1 (nxtB 2 b t)) w w' := by
  obtain ⟨k0, _, _, _⟩ := stl_at h
  have C := Lib.hid (stl_call h fun B1 hp => d_create p t wayS (by decide) way_right h1 u B1 hp)
  show Calls _ _ _ _ fun e w' => e = .returned (.int .i64 (createR t wayL).2) ∧ Qs A (StL p F th S0 D0 x (createR t wayL).1 b) w w'
  clear h h1
  go_enter Try.func30, Try.ntmps30
  go_wp2_with fail
  refine C.out.mono ?_; rintro e u1 ⟨rfl, d⟩
  have D := Lib.hid d
  clear d k0
  go_wp2_with fail
  go_ret
  exact ⟨rfl, D.out⟩
theorem st4_c (h : Qs A (StL p F th S0 D0 x t b) w u) (h1 : t.calls ≤ 1000000000000) (hx : x.size ≤ 1000000000) : Calls Try.prog 32 #[.pointer (some ⟨D0, 0, none⟩), .pointer (some ⟨S0, 0, none⟩)] u fun e w' => e = .returned (.int .i64 (nxtR x.data.toList 3 b t).2) ∧ Qs A (StL p F th S0 D0 x (nxtR x.data.toList 3 b t).1 (nxtB 3 b t)) w w' := by
  obtain ⟨k0, k1, _, _⟩ := stl_at h
  have C := Lib.hid (stl_call h fun B1 hp => d_append p t wayS x (by decide) way_right h1 hx u B1 hp)
  show Calls _ _ _ _ fun e w' => e = .returned (.int .i64 (appendR t wayL x.data.toList).2) ∧ Qs A (StL p F th S0 D0 x (appendR t wayL x.data.toList).1 b) w w'
  clear h h1 hx
  go_enter Try.func32, Try.ntmps32
  go_wp2_with fail
  refine C.out.mono ?_; rintro e u1 ⟨rfl, d⟩
  have D := Lib.hid d
  clear d k0 k1
  go_wp2_with fail
  go_ret
  exact ⟨rfl, D.out⟩
theorem st5_c (h : Qs A (StL p F th S0 D0 x t b) w u) (h1 : t.calls ≤ 1000000000000) : Calls Try.prog 34 #[.pointer (some ⟨D0, 0, none⟩)] u fun e w' => e = .returned (.int .i64 (nxtR x.data.toList 4 b t).2) ∧ Qs A (StL p F th S0 D0 x (nxtR x.data.toList 4 b t).1 (nxtB 4 b t)) w w' := by
  obtain ⟨k0, _, _, _⟩ := stl_at h
  have C := Lib.hid (stl_call h fun B1 hp => d_sync p t wayS (by decide) way_right h1 u B1 hp)
  show Calls _ _ _ _ fun e w' => e = .returned (.int .i64 (syncR t wayL).2) ∧ Qs A (StL p F th S0 D0 x (syncR t wayL).1 b) w w'
  clear h h1
  go_enter Try.func34, Try.ntmps34
  go_wp2_with fail
  refine C.out.mono ?_; rintro e u1 ⟨rfl, d⟩
  have D := Lib.hid d
  clear d k0
  go_wp2_with fail
  go_ret
  exact ⟨rfl, D.out⟩
theorem st6_c (h : Qs A (StL p F th S0 D0 x t b) w u) (h1 : t.calls ≤ 1000000000000) : Calls Try.prog 36 #[.pointer (some ⟨D0, 0, none⟩)] u fun e w' => e = .returned (.int .i64 (nxtR x.data.toList 5 b t).2) ∧ Qs A (StL p F th S0 D0 x (nxtR x.data.toList 5 b t).1 (nxtB 5 b t)) w w' := by
  obtain ⟨k0, _, _, _⟩ := stl_at h
  have C := Lib.hid (stl_call h fun B1 hp => d_rename p t wayS nameS (by decide) way_right (by decide) name_right h1 u B1 hp)
  show Calls _ _ _ _ fun e w' => e = .returned (.int .i64 (renameR t wayL nameL).2) ∧ Qs A (StL p F th S0 D0 x (renameR t wayL nameL).1 b) w w'
  clear h h1
  go_enter Try.func36, Try.ntmps36
  go_wp2_with fail
  refine C.out.mono ?_; rintro e u1 ⟨rfl, d⟩
  have D := Lib.hid d
  clear d k0
  go_wp2_with fail
  go_ret
  exact ⟨rfl, D.out⟩
theorem steps_c {s : St} (h : Qs A [DiskA p s] w u) : Calls Try.prog 16 #[.pointer (some ⟨p, 0, none⟩), .string x] u fun e w' => ∃ F th S0 D0, e = .returned (.slice (some ⟨F, 0, none⟩) 6 6) ∧ Qs A (StL p F th S0 D0 x s false) w w' := by
  have hmf : ∀ (fn : Fn) (first cap : Array Value) (w : World), (Instr.makeFunc fn first cap).run Try.prog w = .ok (.func fn first cap) w := fun _ _ _ _ => rfl
  have H := Lib.hid h
  clear h
  go_enter Try.func16, Try.ntmps16
  go_wp2_with fail
  go_ret
  have h1 := H.out.blk_new #[.pointer (some ⟨p, 0, none⟩)] 25 rfl
  have h2 := h1.blk_new #[.string x] 9 rfl
  have h3 := h2.blk_new #[.bool false] 4 rfl
  have h4 := h3.blk_new (stepsV (u.heap.size + 1 + 1) (u.heap.size + 1) u.heap.size) 49 rfl
  have h5 := h4.perm (M := StL p (u.heap.size + 1 + 1 + 1) (u.heap.size + 1 + 1) (u.heap.size + 1) u.heap.size x s false) (by simp only [World.size_alloc]; exact List.perm_append_singleton (DiskA p s) [_, _, _, _])
  exact ⟨_, _, _, _, rfl, h5⟩
end
end Go.Proofs.Ytckmciafonnohaa
