/- In one text: CmCalls, CmPlay, CmBoth, HeldMono. -/
import Derived.Test.YtckmciafonnohaaGreatP40
import Derived.Deep.RegionHeld3
/- Both disks of a law of commit: what the law asks of them beside Save, Load, Arm, Rise. -/
namespace Go.Proofs.YtckmciafonnohaaGreat
open Go.RowKit FsPlain CrcPlain OctPlain MnPlain CmPlain
set_option linter.unusedVariables false
set_option linter.unusedSimpArgs false
set_option maxRecDepth 20000
theorem tw_new (w u : World) (g : Gr w u) {p : Nat} {room : Int} (h0 : 0 ≤ room) (h1 : room ≤ 16777216) {B : Nat → Prop} (hd : DiskA p (fresh room) u B) (n : Nx (fun _ => False) w B u) : Calls Tryz.prog 7 #[.int .i64 room] u fun e w' => ∃ d, e = .returned (.pointer (some ⟨d, 0, none⟩)) ∧ Pl20 p d (fresh room) (fresh room) [] w w' := by
  refine (rnew_c room u h0 h1).mono ?_
  rintro e w' ⟨rfl, hr, g1⟩
  exact ⟨u.heap.size, rfl, ((Qs.new (L := [DiskA p (fresh room)]) ⟨⟨fr_disk _ _, trivial⟩, B, ⟨B, fun _ => False, hd, (fun _ h => h), (fun _ _ h => h), fun b => (or_false _).symm ▸ Iff.rfl⟩, n⟩ g1 (fr_rdisk _ _) hr (fun x hx => by rw [hx]; exact Nat.le_refl _)).perm (List.Perm.swap _ _ _))⟩
theorem tw_create_p {p d : Nat} {s t : St} {M : List Asn} {w u : World} (h : Pl20 p d s t M w u) (n : ByteArray) (hn : n.size ≤ 1000) (hm : rightB n.data.toList = true) (h1 : s.calls ≤ 1000000000000) : Calls Tryz.prog 8 #[.pointer (some ⟨p, 0, none⟩), .string n] u fun e w' => e = .returned (.int .i64 (createR s n.data.toList).2) ∧ Pl20 p d (createR s n.data.toList).1 t M w w' :=
  on_left (X := fun e _ => e = .returned (.int .i64 (createR s n.data.toList).2)) h fun B1 hp => d_create p s n hn hm h1 u B1 hp
theorem tw_create_d {p d : Nat} {s t : St} {M : List Asn} {w u : World} (h : Pl20 p d s t M w u) (n : ByteArray) (hn : n.size ≤ 24) (hm : rightB n.data.toList = true) (h1 : t.calls ≤ 1000000000000) : Calls Tryz.prog 9 #[.pointer (some ⟨d, 0, none⟩), .string n] u fun e w' => e = .returned (.int .i64 (createR t n.data.toList).2) ∧ Pl20 p d s (createR t n.data.toList).1 M w w' :=
  on_right (X := fun e _ => e = .returned (.int .i64 (createR t n.data.toList).2)) h fun B1 hr => r_create d t n hn hm h1 u B1 hr
theorem tw_append_p {p d : Nat} {s t : St} {M : List Asn} {w u : World} (h : Pl20 p d s t M w u) (n x : ByteArray) (hn : n.size ≤ 1000) (hm : rightB n.data.toList = true) (h1 : s.calls ≤ 1000000000000) (hx : x.size ≤ 1000000000) : Calls Tryz.prog 10 #[.pointer (some ⟨p, 0, none⟩), .string n, .string x] u fun e w' => e = .returned (.int .i64 (appendR s n.data.toList x.data.toList).2) ∧ Pl20 p d (appendR s n.data.toList x.data.toList).1 t M w w' :=
  on_left (X := fun e _ => e = .returned (.int .i64 (appendR s n.data.toList x.data.toList).2)) h fun B1 hp => d_append p s n x hn hm h1 hx u B1 hp
theorem tw_append_d {p d : Nat} {s t : St} {M : List Asn} {w u : World} (h : Pl20 p d s t M w u) (n x : ByteArray) (hn : n.size ≤ 24) (hm : rightB n.data.toList = true) (h1 : t.calls ≤ 1000000000000) (hx : x.size ≤ 1000000000) : Calls Tryz.prog 11 #[.pointer (some ⟨d, 0, none⟩), .string n, .string x] u fun e w' => e = .returned (.int .i64 (appendR t n.data.toList x.data.toList).2) ∧ Pl20 p d s (appendR t n.data.toList x.data.toList).1 M w w' :=
  on_right (X := fun e _ => e = .returned (.int .i64 (appendR t n.data.toList x.data.toList).2)) h fun B1 hr => r_append d t n x hn hm h1 hx u B1 hr
theorem tw_calls_p {p d : Nat} {s t : St} {M : List Asn} {w u : World} (h : Pl20 p d s t M w u) : Calls Tryz.prog 16 #[.pointer (some ⟨p, 0, none⟩)] u fun e w' => e = .returned (.int .i64 s.calls) ∧ u = w' := by
  obtain ⟨B1, hp⟩ := Qs.part h 0 rfl
  exact d_calls p s u B1 hp
theorem tw_calls_d {p d : Nat} {s t : St} {M : List Asn} {w u : World} (h : Pl20 p d s t M w u) : u.cell? ⟨d, 4, none⟩ = some (.int .i64 t.calls) := by
  obtain ⟨B1, _, _, v, hv, _⟩ := Qs.part h 1 rfl
  rw [cells_at hv.1]; rfl
theorem tw_used_p {p d : Nat} {s t : St} {M : List Asn} {w u : World} (h : Pl20 p d s t M w u) : Calls Tryz.prog 22 #[.pointer (some ⟨p, 0, none⟩)] u fun e w' => e = .returned (.int .i64 (used s.fs : Int)) ∧ Pl20 p d s t M w w' := by
  obtain ⟨B1, hok, m, L, hd⟩ := Qs.part h 0 rfl
  exact (used_c p m s B1 L u hok hd).mono fun e w' ⟨he, g⟩ => ⟨he, h.on g⟩
theorem tw_used_d {p d : Nat} {s t : St} {M : List Asn} {w u : World} (h : Pl20 p d s t M w u) : Calls Tryz.prog 23 #[.pointer (some ⟨d, 0, none⟩)] u fun e w' => e = .returned (.int .i64 (used t.fs : Int)) ∧ Pl20 p d s t M w w' := by
  obtain ⟨B2, hr⟩ := Qs.part h 1 rfl
  exact (r_used d t u B2 hr).mono fun e w' ⟨he, g⟩ => ⟨he, h.on g⟩
end Go.Proofs.YtckmciafonnohaaGreat
/- The states of a law of commit, round by round. -/
namespace Go.Proofs.YtckmciafonnohaaGreat
open Go.RowKit FsPlain CrcPlain OctPlain MnPlain CmPlain
set_option linter.unusedVariables false
set_option linter.unusedSimpArgs false
set_option maxRecDepth 20000
namespace CmPlain
theorem pt_small (m : Mn) : (ptS m).data.toList.length ≤ 700 := by
  show (ptS m).size ≤ 700
  unfold ptS
  split
  · next h =>
    have hb : newB [] m.files = true := by unfold mnB at h; rw [Bool.and_eq_true] at h; exact h.2
    have h16 : m.files.length ≤ 16 := by
      unfold mnB at h
      simp only [Bool.and_eq_true, decide_eq_true_eq] at h
      exact h.1.2.2
    have := flatl_le (l := m.files) fun f hf => by
      have := newB_all hb f hf
      unfold flB rightB at this
      simp only [Bool.and_eq_true, decide_eq_true_eq] at this
      have e : f.name.data.toList.length = f.name.size := rfl
      omega
    rw [mnS_size, ← flat_length]
    omega
  · show (0 : Nat) ≤ 700; omega
theorem smalls_saveR {s : St} (m : Mn) (h : Smalls s) : Smalls (saveR s m).1 := by
  unfold saveR
  split
  · exact smalls_save (pt_small m) h
  · exact h
theorem smalls_armed {s : St} (k : Int) (h : Smalls s) : Smalls (armed s k) := ⟨h.1.same rfl, h.2.same rfl⟩
theorem calls_saveR (s : St) (m : Mn) : (saveR s m).1.calls ≤ s.calls + 6 := by
  unfold saveR
  split
  · exact calls_save s _
  · show s.calls ≤ s.calls + 6; omega
theorem calls_riseN (s : St) (ks : List Int) (j : Nat) : (riseN s ks j).calls = s.calls := by
  induction j with
  | zero => rfl
  | succ j ih => exact ih
theorem calls_rise (s : St) (ks : List Int) : (riseR s ks).calls = s.calls := calls_riseN s ks _
/-- How a round leaves either disk. -/
def stepA (s : St) (x : Ty) : St := (saveR (armed s x.fuse) x.m).1
def stepB (s : St) (x : Ty) : St := riseR (loadT (stepA s x)) x.keep
def stepC (s : St) (x : Ty) : St := loadT (stepB s x)
theorem step_smalls {s : St} (x : Ty) (h : Smalls s) : Smalls (stepA s x) ∧ Smalls (stepB s x) ∧ Smalls (stepC s x) := by
  have a := smalls_saveR x.m (smalls_armed x.fuse h)
  have b := smalls_rise x.keep (smalls_load a)
  exact ⟨a, b, smalls_load b⟩
theorem step_calls (s : St) (x : Ty) : (stepA s x).calls ≤ s.calls + 6 ∧ (loadT (stepA s x)).calls ≤ s.calls + 8 ∧ (stepB s x).calls ≤ s.calls + 8 ∧ (stepC s x).calls ≤ s.calls + 10 := by
  have a : (stepA s x).calls ≤ (armed s x.fuse).calls + 6 := calls_saveR _ x.m
  have a' : (armed s x.fuse).calls = s.calls := rfl
  have b : (loadT (stepA s x)).calls ≤ (stepA s x).calls + 2 := calls_load _
  have c : (stepB s x).calls = (loadT (stepA s x)).calls := calls_rise _ x.keep
  have d : (stepC s x).calls ≤ (stepB s x).calls + 2 := calls_load _
  omega
/-- Both files laid ahead of all saves. -/
def laid1 : St := (createR (fresh 1048576) nameL).1
def laid2 (x : List UInt8) : St := (appendR laid1 nameL x).1
def laid3 (x : List UInt8) : St := (createR (laid2 x) wayL).1
theorem laid_smalls {x : List UInt8} (hx : x.length ≤ 100) : Smalls (laid3 x) := by
  have h0 : Smalls (fresh 1048576) := ⟨sm_none rfl, sm_none rfl⟩
  have e0 : (createR (fresh 1048576) nameL).2 = 0 := by kernel_rfl
  have h1 : Smalls laid1 := ⟨sm_create h0.1, h0.2.same (create_ne fun q => way_ne q.symm)⟩
  have h2 : Smalls (laid2 x) := by
    refine ⟨?_, h1.2.same (append_ne fun q => way_ne q.symm)⟩
    by_cases e3 : (appendR laid1 nameL x).2 = 0
    · exact sm_some (append_eq (create_eq e0) e3) (by show ([] ++ x).length ≤ 700; simp; omega)
    · exact h1.1.same (append_no e3 _)
  exact ⟨h2.1.same (create_ne way_ne), sm_create h2.2⟩
theorem laid_calls (x : List UInt8) : laid1.calls ≤ 3 ∧ (laid2 x).calls ≤ 3 ∧ (laid3 x).calls ≤ 3 := by
  have a : laid1.calls = (fresh 1048576).calls + 1 := calls_create _ _
  have b : (laid2 x).calls = laid1.calls + 1 := calls_append _ _ _
  have c : (laid3 x).calls = (laid2 x).calls + 1 := calls_create _ _
  have z : (fresh 1048576).calls = 0 := rfl
  omega
end CmPlain
/-- Ahead of round i both disks are in the same state. -/
def Rel20 (p d : Nat) (l : List Ty) (w : World) (v : Value) (wr : World) : Prop := ∃ (i : Nat) (s : St), i ≤ l.length ∧ v = .int .i64 (i : Int) ∧ Pl20 p d s s [] w wr ∧ Smalls s ∧ s.calls ≤ 3 + 10 * (i : Int)
end Go.Proofs.YtckmciafonnohaaGreat
/- The program's Save and Load, as calls on one of two disks. -/
namespace Go.Proofs.YtckmciafonnohaaGreat
open Go.RowKit FsPlain CrcPlain OctPlain MnPlain CmPlain
set_option linter.unusedVariables false
set_option linter.unusedSimpArgs false
set_option maxRecDepth 20000
theorem tw_save_p {p d : Nat} {s t : St} {M : List Asn} {w u : World} (h : Pl20 p d s t M w u) {m : Mn} {a : Option Addr} {n c : Nat} (h1 : s.calls ≤ 1000000000) (hm : LiesFl w (.slice a n c) m.files) (hl : m.files.length ≤ maxLen) (hK : ∀ f ∈ m.files, flK f) : Calls Tryz.prog 14 #[.pointer (some ⟨p, 0, none⟩), .agg #[.int .i64 m.stage, .int .i64 m.pass, .slice a n c]] u fun e w' => e = .returned (.int .i64 (saveR s m).2) ∧ Pl20 p d (saveR s m).1 t M w w' :=
  on_left (X := fun e _ => e = .returned (.int .i64 (saveR s m).2)) h fun B1 hp => csave20_c p s m u B1 hp h1 (hm.gr h.gr) hl hK
theorem tw_load_p {p d : Nat} {s t : St} {M : List Asn} {w u : World} (h : Pl20 p d s t M w u) (h1 : s.calls ≤ 1000000000) (hz : ∀ x, (loadE s).2 = some x → x.length ≤ 700) : Calls Tryz.prog 17 #[.pointer (some ⟨p, 0, none⟩)] u (LdTells s fun N w' => Pl20 p d (loadT s) t (M ++ N) w w') :=
  ps_load h (fr_disk p (loadT s)) fun B1 hp => cload20_c p s u B1 hp h1 (by have hok : s.ok := hp.1; have := hok.u; have := hok.r1; omega) hz
end Go.Proofs.YtckmciafonnohaaGreat
/- What a region's walk holds may become more on the way. -/
namespace Go.Proofs.YtckmciafonnohaaGreat

set_option linter.unusedVariables false
theorem wpAnyH_mono {P : Program} {md : Region.Mode} {ops : Array Oper} {Q : Exit → Act → World → Prop} {S S' : World → Prop} (hS : ∀ w, S w → S' w) :
    ∀ (fuel : Nat) (listed : Array Bool) (a : Act) (w : World), wpAnyH P md ops Q S fuel listed a w → wpAnyH P md ops Q S' fuel listed a w
  | 0, _, _, _, h => h
  | fuel + 1, _, _, _, h => ⟨h.1, fun i hi => wpOp_mono (fun a' w' h' => ⟨hS _ h'.1, wpAnyH_mono hS fuel _ a' w' h'.2⟩) (h.2 i hi)⟩
end Go.Proofs.YtckmciafonnohaaGreat
