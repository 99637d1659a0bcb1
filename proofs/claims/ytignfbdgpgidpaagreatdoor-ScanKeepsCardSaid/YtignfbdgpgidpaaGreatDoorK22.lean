/- In one text: CmA, CmS. -/
import Derived.Test.YtignfbdgpgidpaaGreatDoorK21
import Derived.Test.YtignfbdgpgidpaaGreatDoorK09
import Derived.Test.YtignfbdgpgidpaaGreatDoorK06
import Derived.Test.YtignfbdgpgidpaaGreatDoorK07
/- The program's layer 20: look, and the steps of a save. -/
namespace Go.Proofs.YtignfbdgpgidpaaGreatDoor
open Go.RowKit FsPlain CrcPlain OctPlain MnPlain CmPlain
set_option linter.unusedVariables false
set_option linter.unusedSimpArgs false
set_option maxRecDepth 20000
namespace CmPlain
def lookN (s : St) (n : List UInt8) : Int := if (sizeR s n).2 = 2 then 0 else (sizeR s n).1
def lookB (s : St) (n : List UInt8) : Bool := decide ((sizeR s n).2 = 0)
def lookC (s : St) (n : List UInt8) : Int := if (sizeR s n).2 = 2 then 0 else (sizeR s n).2
def nxtR (x : List UInt8) (i : Nat) (b : Bool) (t : St) : St × Int := match i with
  | 0 => (t.call, lookC t wayL)
  | 1 => if b = true then removeR t wayL else (t, 0)
  | 2 => createR t wayL
  | 3 => appendR t wayL x
  | 4 => syncR t wayL
  | _ => renameR t wayL nameL
def nxtB (i : Nat) (b : Bool) (t : St) : Bool := match i with
  | 0 => lookB t wayL
  | _ => b
def finR (x : List UInt8) : Nat → Bool → St → St × Int
  | 0, _, t => (t, 0)
  | k + 1, b, t => thenR (nxtR x (5 - k) b t) fun t' => finR x k (nxtB (5 - k) b t) t'
theorem thenR_assoc (a : St × Int) (f g : St → St × Int) : thenR (thenR a f) g = thenR a fun t => thenR (f t) g := by
  by_cases h : a.2 = 0
  · rw [thenR_yes h, thenR_yes h]
  · rw [thenR_no h, thenR_no h, thenR_no h]
theorem thenR_zero (t : St) (f : St → St × Int) : thenR (t, 0) f = f t := rfl
theorem thenR_id (a : St × Int) : thenR a (fun t => (t, 0)) = a := by
  obtain ⟨t, c⟩ := a
  by_cases h : c = 0
  · subst h; rfl
  · exact thenR_no h
theorem fin_save (s : St) (x : List UInt8) : finR x 6 false s = saveS s x := by
  have hg : thenR (s.call, lookC s wayL) (fun t => if lookB s wayL = true then removeR t wayL else (t, 0)) = goneR s := by
    unfold goneR lookB lookC
    by_cases e0 : (sizeR s wayL).2 = 0
    · rw [if_pos e0, if_neg (by rw [e0]; decide), e0, thenR_zero]; simp
    · by_cases e2 : (sizeR s wayL).2 = 2
      · rw [if_neg e0, if_pos e2, if_pos e2, thenR_zero, if_neg (by simpa using e0)]
      · rw [if_neg e0, if_neg e2, if_neg e2, thenR_no e0]
  unfold saveS
  rw [← hg]
  simp only [thenR_assoc]
  simp only [finR, nxtR, nxtB, thenR_id]
  rfl
theorem nxt_calls (x : List UInt8) (i : Nat) (b : Bool) (t : St) : (nxtR x i b t).1.calls ≤ t.calls + 1 := by
  unfold nxtR
  split
  · show t.calls + 1 ≤ _; omega
  · split
    · rw [calls_remove]; omega
    · show t.calls ≤ _; omega
  · rw [calls_create]; omega
  · rw [calls_append]; omega
  · rw [calls_sync]; omega
  · rw [calls_rename]; omega
end CmPlain
set_option maxHeartbeats 2000000 in
theorem look_c (p : Nat) (s : St) (n : ByteArray) (hn : n.size ≤ 1000) (hm : rightB n.data.toList = true) (h1 : s.calls ≤ 1000000000000) (w : World) (B : Nat → Prop) (h : DiskA p s w B) :
    Calls Tryz.prog 89 #[.pointer (some ⟨p, 0, none⟩), .string n] w (Does w B (DiskA p s.call) (.tuple #[.int .i64 (lookN s n.data.toList), .bool (lookB s n.data.toList), .int .i64 (lookC s n.data.toList)])) := by
  have SZ := d_size p s n hn hm h1 w B h
  unfold lookN lookB lookC
  obtain ⟨k, hk⟩ : ∃ k, (sizeR s n.data.toList).1 = k := ⟨_, rfl⟩
  obtain ⟨c, hc⟩ : ∃ c, (sizeR s n.data.toList).2 = c := ⟨_, rfl⟩
  rw [hk, hc] at SZ ⊢
  have SZ := Lib.hid SZ
  clear hk hc hm h1 h hn
  by_cases e2 : c = 2
  · subst e2
    rw [if_pos rfl, if_pos rfl]
    have q0 : decide ((2 : Int) = 0) = false := by decide
    rw [q0]
    go_enter Tryz.func89, Tryz.ntmps89
    go_wp2_with fail
    refine SZ.out.mono ?_; rintro e u ⟨rfl, D⟩
    have D := Lib.hid D
    go_wp2_with fail
    exact bodyPost_ret (v := .tuple #[.int .i64 0, .bool false, .int .i64 0]) (by simp [results, Tryz.results89, go_sem]) rfl ⟨rfl, D.out⟩
  · rw [if_neg e2, if_neg e2]
    have q2 : (c == 2) = false := by simpa using e2
    obtain ⟨b, hb⟩ : ∃ b, decide (c = 0) = b := ⟨_, rfl⟩
    have q0 : (c == 0) = b := by rw [← hb]; rfl
    rw [hb]
    clear hb e2
    go_enter Tryz.func89, Tryz.ntmps89
    go_wp2_with fail
    refine SZ.out.mono ?_; rintro e u ⟨rfl, D⟩
    have D := Lib.hid D
    go_wp2_with fail
    exact bodyPost_ret (v := .tuple #[.int .i64 k, .bool b, .int .i64 c]) (by simp [results, Tryz.results89, go_sem]) rfl ⟨rfl, D.out⟩
def stepsV (th S0 D0 : Nat) : Array Value := #[.func (.func 88) #[] #[.pointer (some ⟨D0, 0, none⟩), .pointer (some ⟨th, 0, none⟩)], .func (.func 90) #[] #[.pointer (some ⟨th, 0, none⟩), .pointer (some ⟨D0, 0, none⟩)], .func (.func 91) #[] #[.pointer (some ⟨D0, 0, none⟩)], .func (.func 92) #[] #[.pointer (some ⟨D0, 0, none⟩), .pointer (some ⟨S0, 0, none⟩)], .func (.func 93) #[] #[.pointer (some ⟨D0, 0, none⟩)], .func (.func 95) #[] #[.pointer (some ⟨D0, 0, none⟩)]]
def StL (p F th S0 D0 : Nat) (x : ByteArray) (t : St) (b : Bool) : List Asn := [DiskA p t, Blk F (stepsV th S0 D0) 107, Blk th #[.bool b] 4, Blk S0 #[.string x] 9, Blk D0 #[.pointer (some ⟨p, 0, none⟩)] 29]
theorem stl_at {A : Nat → Prop} {p F th S0 D0 : Nat} {x : ByteArray} {t : St} {b : Bool} {w u : World} (h : Qs A (StL p F th S0 D0 x t b) w u) : u.cell? ⟨D0, 0, none⟩ = some (.pointer (some ⟨p, 0, none⟩)) ∧ u.cell? ⟨S0, 0, none⟩ = some (.string x) ∧ u.cell? ⟨th, 0, none⟩ = some (.bool b) ∧ u.frozen? ⟨th, 0, none⟩ = false :=
  ⟨by rw [cells_at (h.blk 4 rfl)]; rfl, by rw [cells_at (h.blk 3 rfl)]; rfl, by rw [cells_at (h.blk 2 rfl)]; rfl, cells_free (h.blk 2 rfl) 0⟩
section
variable {A : Nat → Prop} {p F th S0 D0 : Nat} {x : ByteArray} {t : St} {b : Bool} {w u : World}
theorem stl_call {f : FuncId} {args : Array Value} {v : Value} {t' : St} (h : Qs A (StL p F th S0 D0 x t b) w u) (C : ∀ B1, DiskA p t u B1 → Calls Tryz.prog f args u (Does u B1 (DiskA p t') v)) : Calls Tryz.prog f args u fun e w' => e = .returned v ∧ Qs A (StL p F th S0 D0 x t' b) w w' :=
  Qs.call0 (X := fun e _ => e = .returned v) h (fr_disk p t') C
theorem st1_c (h : Qs A (StL p F th S0 D0 x t b) w u) (h1 : t.calls ≤ 1000000000000) : Calls Tryz.prog 88 #[.pointer (some ⟨D0, 0, none⟩), .pointer (some ⟨th, 0, none⟩)] u fun e w' => e = .returned (.int .i64 (nxtR x.data.toList 0 b t).2) ∧ Qs A (StL p F th S0 D0 x (nxtR x.data.toList 0 b t).1 (nxtB 0 b t)) w w' := by
  obtain ⟨k0, _, _, _⟩ := stl_at h
  have C := Lib.hid (stl_call h fun B1 hp => look_c p t wayS (by decide) way_right h1 u B1 hp)
  show Calls _ _ _ _ fun e w' => e = .returned (.int .i64 (lookC t wayL)) ∧ Qs A (StL p F th S0 D0 x t.call (lookB t wayL)) w w'
  rw [show wayS.data.toList = wayL from rfl] at C
  obtain ⟨ln, hln⟩ : ∃ r, lookN t wayL = r := ⟨_, rfl⟩
  obtain ⟨lb, hlb⟩ : ∃ r, lookB t wayL = r := ⟨_, rfl⟩
  obtain ⟨lc, hlc⟩ : ∃ r, lookC t wayL = r := ⟨_, rfl⟩
  rw [hln, hlb, hlc] at C
  rw [hlb, hlc]
  clear hln hlb hlc h h1
  go_enter Tryz.func88, Tryz.ntmps88
  go_wp2_with fail
  refine C.out.mono ?_; rintro e u1 ⟨rfl, d⟩
  obtain ⟨_, _, c0, f0⟩ := stl_at d
  have D := Lib.hid (show Qs A (StL p F th S0 D0 x t.call lb) w (u1.setCell ⟨th, 0, none⟩ (.bool lb)) from d.set 2 rfl 0 (.bool lb))
  clear d k0
  go_wp2_with fail
  go_ret
  exact ⟨rfl, D.out⟩
theorem st2_c (h : Qs A (StL p F th S0 D0 x t b) w u) (h1 : t.calls ≤ 1000000000000) : Calls Tryz.prog 90 #[.pointer (some ⟨th, 0, none⟩), .pointer (some ⟨D0, 0, none⟩)] u fun e w' => e = .returned (.int .i64 (nxtR x.data.toList 1 b t).2) ∧ Qs A (StL p F th S0 D0 x (nxtR x.data.toList 1 b t).1 (nxtB 1 b t)) w w' := by
  obtain ⟨k0, _, k2, _⟩ := stl_at h
  cases b with
  | true =>
    have C := Lib.hid (stl_call h fun B1 hp => d_remove p t wayS (by decide) way_right h1 u B1 hp)
    show Calls _ _ _ _ fun e w' => e = .returned (.int .i64 (removeR t wayL).2) ∧ Qs A (StL p F th S0 D0 x (removeR t wayL).1 true) w w'
    clear h h1
    go_enter Tryz.func90, Tryz.ntmps90
    go_wp2_with fail
    refine C.out.mono ?_; rintro e u1 ⟨rfl, d⟩
    have D := Lib.hid d
    clear d k0 k2
    go_wp2_with fail
    go_ret
    exact ⟨rfl, D.out⟩
  | false =>
    have D := Lib.hid h
    show Calls _ _ _ _ fun e w' => e = .returned (.int .i64 0) ∧ Qs A (StL p F th S0 D0 x t false) w w'
    clear h h1
    go_enter Tryz.func90, Tryz.ntmps90
    go_wp2_with fail
    go_ret
    exact ⟨rfl, D.out⟩
theorem st3_c (h : Qs A (StL p F th S0 D0 x t b) w u) (h1 : t.calls ≤ 1000000000000) : Calls Tryz.prog 91 #[.pointer (some ⟨D0, 0, none⟩)] u fun e w' => e = .returned (.int .i64 (nxtR x.data.toList 2 b t).2) ∧ Qs A (StL p F th S0 D0 x (nxtR x.data.toList 2 b t).1 (nxtB 2 b t)) w w' := by
  obtain ⟨k0, _, _, _⟩ := stl_at h
  have C := Lib.hid (stl_call h fun B1 hp => d_create p t wayS (by decide) way_right h1 u B1 hp)
  show Calls _ _ _ _ fun e w' => e = .returned (.int .i64 (createR t wayL).2) ∧ Qs A (StL p F th S0 D0 x (createR t wayL).1 b) w w'
  clear h h1
  go_enter Tryz.func91, Tryz.ntmps91
  go_wp2_with fail
  refine C.out.mono ?_; rintro e u1 ⟨rfl, d⟩
  have D := Lib.hid d
  clear d k0
  go_wp2_with fail
  go_ret
  exact ⟨rfl, D.out⟩
theorem st4_c (h : Qs A (StL p F th S0 D0 x t b) w u) (h1 : t.calls ≤ 1000000000000) (hx : x.size ≤ 1000000000) : Calls Tryz.prog 92 #[.pointer (some ⟨D0, 0, none⟩), .pointer (some ⟨S0, 0, none⟩)] u fun e w' => e = .returned (.int .i64 (nxtR x.data.toList 3 b t).2) ∧ Qs A (StL p F th S0 D0 x (nxtR x.data.toList 3 b t).1 (nxtB 3 b t)) w w' := by
  obtain ⟨k0, k1, _, _⟩ := stl_at h
  have C := Lib.hid (stl_call h fun B1 hp => d_append p t wayS x (by decide) way_right h1 hx u B1 hp)
  show Calls _ _ _ _ fun e w' => e = .returned (.int .i64 (appendR t wayL x.data.toList).2) ∧ Qs A (StL p F th S0 D0 x (appendR t wayL x.data.toList).1 b) w w'
  clear h h1 hx
  go_enter Tryz.func92, Tryz.ntmps92
  go_wp2_with fail
  refine C.out.mono ?_; rintro e u1 ⟨rfl, d⟩
  have D := Lib.hid d
  clear d k0 k1
  go_wp2_with fail
  go_ret
  exact ⟨rfl, D.out⟩
theorem st5_c (h : Qs A (StL p F th S0 D0 x t b) w u) (h1 : t.calls ≤ 1000000000000) : Calls Tryz.prog 93 #[.pointer (some ⟨D0, 0, none⟩)] u fun e w' => e = .returned (.int .i64 (nxtR x.data.toList 4 b t).2) ∧ Qs A (StL p F th S0 D0 x (nxtR x.data.toList 4 b t).1 (nxtB 4 b t)) w w' := by
  obtain ⟨k0, _, _, _⟩ := stl_at h
  have C := Lib.hid (stl_call h fun B1 hp => d_sync p t wayS (by decide) way_right h1 u B1 hp)
  show Calls _ _ _ _ fun e w' => e = .returned (.int .i64 (syncR t wayL).2) ∧ Qs A (StL p F th S0 D0 x (syncR t wayL).1 b) w w'
  clear h h1
  go_enter Tryz.func93, Tryz.ntmps93
  go_wp2_with fail
  refine C.out.mono ?_; rintro e u1 ⟨rfl, d⟩
  have D := Lib.hid d
  clear d k0
  go_wp2_with fail
  go_ret
  exact ⟨rfl, D.out⟩
theorem st6_c (h : Qs A (StL p F th S0 D0 x t b) w u) (h1 : t.calls ≤ 1000000000000) : Calls Tryz.prog 95 #[.pointer (some ⟨D0, 0, none⟩)] u fun e w' => e = .returned (.int .i64 (nxtR x.data.toList 5 b t).2) ∧ Qs A (StL p F th S0 D0 x (nxtR x.data.toList 5 b t).1 (nxtB 5 b t)) w w' := by
  obtain ⟨k0, _, _, _⟩ := stl_at h
  have C := Lib.hid (stl_call h fun B1 hp => d_rename p t wayS nameS (by decide) way_right (by decide) name_right h1 u B1 hp)
  show Calls _ _ _ _ fun e w' => e = .returned (.int .i64 (renameR t wayL nameL).2) ∧ Qs A (StL p F th S0 D0 x (renameR t wayL nameL).1 b) w w'
  clear h h1
  go_enter Tryz.func95, Tryz.ntmps95
  go_wp2_with fail
  refine C.out.mono ?_; rintro e u1 ⟨rfl, d⟩
  have D := Lib.hid d
  clear d k0
  go_wp2_with fail
  go_ret
  exact ⟨rfl, D.out⟩
theorem steps_c {s : St} (h : Qs A [DiskA p s] w u) : Calls Tryz.prog 55 #[.pointer (some ⟨p, 0, none⟩), .string x] u fun e w' => ∃ F th S0 D0, e = .returned (.slice (some ⟨F, 0, none⟩) 6 6) ∧ Qs A (StL p F th S0 D0 x s false) w w' := by
  have hmf : ∀ (fn : Fn) (first cap : Array Value) (w : World), (Instr.makeFunc fn first cap).run Tryz.prog w = .ok (.func fn first cap) w := fun _ _ _ _ => rfl
  have H := Lib.hid h
  clear h
  go_enter Tryz.func55, Tryz.ntmps55
  go_wp2_with fail
  go_ret
  have h1 := H.out.blk_new #[.pointer (some ⟨p, 0, none⟩)] 29 rfl
  have h2 := h1.blk_new #[.string x] 9 rfl
  have h3 := h2.blk_new #[.bool false] 4 rfl
  have h4 := h3.blk_new (stepsV (u.heap.size + 1 + 1) (u.heap.size + 1) u.heap.size) 107 rfl
  have h5 := h4.perm (M := StL p (u.heap.size + 1 + 1 + 1) (u.heap.size + 1 + 1) (u.heap.size + 1) u.heap.size x s false) (by simp only [World.size_alloc]; exact List.perm_append_singleton (DiskA p s) [_, _, _, _])
  exact ⟨_, _, _, _, rfl, h5⟩
end
end Go.Proofs.YtignfbdgpgidpaaGreatDoor
/- The program's layer 20: Save. -/
namespace Go.Proofs.YtignfbdgpgidpaaGreatDoor
open Go.RowKit FsPlain CrcPlain OctPlain MnPlain CmPlain
set_option linter.unusedVariables false
set_option linter.unusedSimpArgs false
set_option maxRecDepth 20000
def stepF (i : Nat) : FuncId := match i with
  | 0 => 88
  | 1 => 90
  | 2 => 91
  | 3 => 92
  | 4 => 93
  | _ => 95
def stepG (th S0 D0 i : Nat) : Array Value := match i with
  | 0 => #[.pointer (some ⟨D0, 0, none⟩), .pointer (some ⟨th, 0, none⟩)]
  | 1 => #[.pointer (some ⟨th, 0, none⟩), .pointer (some ⟨D0, 0, none⟩)]
  | 2 => #[.pointer (some ⟨D0, 0, none⟩)]
  | 3 => #[.pointer (some ⟨D0, 0, none⟩), .pointer (some ⟨S0, 0, none⟩)]
  | 4 => #[.pointer (some ⟨D0, 0, none⟩)]
  | _ => #[.pointer (some ⟨D0, 0, none⟩)]
def SvAt (A : Nat → Prop) (p F th S0 D0 : Nat) (x : ByteArray) (c : Int) (T : St × Int) (w : World) (v : Value) (wr : World) : Prop :=
  ∃ (i : Nat) (b : Bool) (t : St), i ≤ 6 ∧ v = .int .i64 (i : Int) ∧ t.calls ≤ c + i ∧ finR x.data.toList (6 - i) b t = T ∧ Qs A (StL p F th S0 D0 x t b) w wr
theorem sv_step {A : Nat → Prop} {p F th S0 D0 : Nat} {x : ByteArray} {c : Int} {T : St × Int} {w u : World} {i : Nat} {b : Bool} {t : St} (hi : i < 6) (hc : t.calls ≤ c + i) (hf : finR x.data.toList (6 - i) b t = T) (h : Qs A (StL p F th S0 D0 x (nxtR x.data.toList i b t).1 (nxtB i b t)) w u) :
    ((nxtR x.data.toList i b t).2 = 0 ∧ SvAt A p F th S0 D0 x c T w (.int .i64 ((i : Int) + 1)) u) ∨ ((nxtR x.data.toList i b t).2 ≠ 0 ∧ T = nxtR x.data.toList i b t) := by
  have e : 6 - i = (5 - i) + 1 := by omega
  have e5 : 5 - (5 - i) = i := by omega
  rw [e] at hf
  unfold finR at hf
  rw [e5] at hf
  by_cases hz : (nxtR x.data.toList i b t).2 = 0
  · rw [thenR_yes hz] at hf
    refine .inl ⟨hz, i + 1, _, _, by omega, by rw [Int.natCast_add]; rfl, ?_, ?_, h⟩
    · have := nxt_calls x.data.toList i b t; omega
    · rw [show 6 - (i + 1) = 5 - i by omega]; exact hf
  · rw [thenR_no hz] at hf
    exact .inr ⟨hz, hf.symm⟩
set_option maxHeartbeats 8000000 in
theorem csave20_c (p : Nat) (s : St) (m : Mn) {a : Option Addr} {n c : Nat} (w : World) (B : Nat → Prop) (hd : DiskA p s w B) (h1 : s.calls ≤ 1000000000) (h : LiesFl w (.slice a n c) m.files) (hl : m.files.length ≤ maxLen) (hK : ∀ f ∈ m.files, flK f) :
    Calls Tryz.prog 22 #[.pointer (some ⟨p, 0, none⟩), .agg #[.int .i64 m.stage, .int .i64 m.pass, .slice a n c]] w fun e w' => e = .returned (.int .i64 (saveR s m).2) ∧ ∃ B', DiskA p (saveR s m).1 w' B' ∧ Nx B w B' w' := by
  have g0 := gr19 w (.cells #[.int .i64 m.stage, .int .i64 m.pass, .slice a n c] 27)
  have PT := Lib.hid (put19_c m _ (h.gr g0) hl hK)
  obtain ⟨x, hx⟩ : ∃ x, ptS m = x := ⟨_, rfl⟩
  have hxs := ptS_size (m := m)
  obtain ⟨mb, hmb⟩ : ∃ b, mnB m = b := ⟨_, rfl⟩
  unfold saveR
  rw [hx, hmb] at PT ⊢
  rw [hx] at hxs
  have GD := Lib.hid (fun u (g : Gr (w.alloc (.cells #[.int .i64 m.stage, .int .i64 m.pass, .slice a n c] 27)) u) => (⟨star_gr (fr_disk p s) hd (g0.trans g), Nx.gr (g0.trans g)⟩ : DiskA p s u B ∧ Nx B w B u))
  clear h hl hK hx hmb g0 hd
  cases mb with
  | false =>
    go_enter Tryz.func22, Tryz.ntmps22
    go_wp2_with fail
    refine PT.out.mono ?_; rintro e u ⟨rfl, g⟩
    have G := Lib.hid (GD.out u g)
    clear g
    go_wp2_with fail
    go_ret
    exact ⟨rfl, B, G.out.1, G.out.2⟩
  | true =>
    rw [if_pos rfl]
    obtain ⟨T, hT⟩ : ∃ T, saveS s x.data.toList = T := ⟨_, rfl⟩
    rw [hT]
    have HT := Lib.hid ((fin_save s x.data.toList).trans hT)
    have HX := Lib.hid (show x.size ≤ 1000000000 by omega)
    have H1 := Lib.hid h1
    clear hT hxs h1
    go_enter Tryz.func22, Tryz.ntmps22
    go_wp2_with fail
    refine PT.out.mono ?_; rintro e u ⟨rfl, g⟩
    have SC := Lib.hid (steps_c (x := x) (Qs.one (A := B) (w := w) (fr_disk p s) (GD.out u g).1 (GD.out u g).2))
    clear g PT GD
    go_wp2_with fail
    refine SC.out.mono ?_; rintro e u2 ⟨F, th, S0, D0, rfl, d⟩
    have D := Lib.hid d
    clear d SC
    go_wp2_with fail
    go_loopw [21] (fun v wr => SvAt B p F th S0 D0 x s.calls T w v wr) (fun v _ => 6 - (intOf v).toNat)
    case atStart => exact ⟨0, false, s, by omega, rfl, by omega, HT.out, D.out⟩
    case round =>
      obtain ⟨i, b, t, hi, rfl, hc, hf, d⟩ := hrel
      have HC := Lib.hid (show t.calls ≤ s.calls + (i : Int) ∧ t.calls ≤ 1000000000000 from ⟨hc, by have := H1.out; omega⟩)
      have hfo := Lib.hid hf
      have DD := Lib.hid d
      have kF := d.blk 1 rfl
      by_cases hlt : i < 6
      · have hcs : i = 0 ∨ i = 1 ∨ i = 2 ∨ i = 3 ∨ i = 4 ∨ i = 5 := by omega
        obtain ⟨hfa, hst⟩ : wr.cell? ⟨F, i, none⟩ = some (.func (.func (stepF i)) #[] (stepG th S0 D0 i)) ∧ Calls Tryz.prog (stepF i) (stepG th S0 D0 i) wr (fun e w' => e = .returned (.int .i64 (nxtR x.data.toList i b t).2) ∧ Qs B (StL p F th S0 D0 x (nxtR x.data.toList i b t).1 (nxtB i b t)) w w') := by
          rcases hcs with rfl | rfl | rfl | rfl | rfl | rfl
          · exact ⟨by rw [cells_at kF]; rfl, st1_c d HC.out.2⟩
          · exact ⟨by rw [cells_at kF]; rfl, st2_c d HC.out.2⟩
          · exact ⟨by rw [cells_at kF]; rfl, st3_c d HC.out.2⟩
          · exact ⟨by rw [cells_at kF]; rfl, st4_c d HC.out.2 HX.out⟩
          · exact ⟨by rw [cells_at kF]; rfl, st5_c d HC.out.2⟩
          · exact ⟨by rw [cells_at kF]; rfl, st6_c d HC.out.2⟩
        obtain ⟨N, hN⟩ : ∃ N, nxtR x.data.toList i b t = N := ⟨_, rfl⟩
        have HN := Lib.hid hN
        rw [hN] at hst
        clear d kF hf hc hN
        rcases hcs with rfl | rfl | rfl | rfl | rfl | rfl
        all_goals
          dsimp only [stepF, stepG] at hfa hst
          have hst := Lib.hid hst
          go_wp2_with fail
          refine hst.out.mono ?_; rintro e u3 ⟨rfl, d3⟩
          have hs := sv_step (w := w) (u := u3) hlt HC.out.1 hfo.out (by rw [HN.out]; exact d3)
          rw [HN.out] at hs
          rcases hs with ⟨hz, hsv⟩ | ⟨hz, hTe⟩
          · have HS := Lib.hid hsv
            have q2 : (N.2 != 0) = false := by simpa using hz
            clear d3 hsv hz
            go_wp2_with fail
            refine ⟨HS.out, ?_⟩
            simp [intOf]
          · have q2 : (N.2 != 0) = true := by simpa using hz
            have D3 := Lib.hid d3
            have HE := Lib.hid hTe
            clear d3 hTe hz
            go_wp2_with fail
            go_ret
            rw [HE.out]
            obtain ⟨B1, hb1, hn1⟩ : ∃ B', DiskA p N.1 u3 B' ∧ Nx B w B' u3 := by
              obtain ⟨_, B3, ⟨B1, B2, q, _, _, e⟩, n⟩ := D3.out
              exact ⟨B1, q, n.trans ⟨Only.refl _ _, fun b hb => .inl ((e b).2 (.inl hb))⟩⟩
            exact ⟨rfl, B1, hb1, hn1⟩
      · obtain rfl : i = 6 := by omega
        have hT : T = (t, 0) := hf.symm
        have D3 := Lib.hid d
        have HE := Lib.hid hT
        clear d kF hf hc hT hlt
        go_wp2_with fail
        go_ret
        rw [HE.out]
        obtain ⟨B1, hb1, hn1⟩ : ∃ B', DiskA p t wr B' ∧ Nx B w B' wr := by
          obtain ⟨_, B3, ⟨B1, B2, q, _, _, e⟩, n⟩ := D3.out
          exact ⟨B1, q, n.trans ⟨Only.refl _ _, fun b hb => .inl ((e b).2 (.inl hb))⟩⟩
        exact ⟨rfl, B1, hb1, hn1⟩
end Go.Proofs.YtignfbdgpgidpaaGreatDoor
