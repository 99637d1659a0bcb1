/- In one text: CmTwo, CmAwake, CmCalls, CmPlay. -/
import Derived.Test.YtckmciafonnohaaP37
import Derived.Test.YtckmciafonnohaaP38
import Derived.Test.YtckmciafonnohaaP41
/- Both disks of a law of commit, apart from one another: each call on either. -/
namespace Go.Proofs.Ytckmciafonnohaa
open Go.RowKit FsPlain CrcPlain OctPlain MnPlain CmPlain
set_option linter.unusedVariables false
set_option linter.unusedSimpArgs false
set_option maxRecDepth 20000
/-- A manifest's cells, which may be written. -/
theorem mn_cells {u : World} {X : Nat} {x y : Int} {v : Value} {T : TypeId} (h : u.heap[X]? = some (.cells #[.int .i64 x, .int .i64 y, v] T (0, 0))) : (u.cell? ⟨X, 0, none⟩ = some (.int .i64 x) ∧ u.cell? ⟨X, 1, none⟩ = some (.int .i64 y) ∧ u.cell? ⟨X, 2, none⟩ = some v) ∧ u.frozen? ⟨X, 0, none⟩ = false ∧ u.frozen? ⟨X, 1, none⟩ = false ∧ u.frozen? ⟨X, 2, none⟩ = false :=
  ⟨⟨by rw [cells_at h]; rfl, by rw [cells_at h]; rfl, by rw [cells_at h]; rfl⟩, cells_free h 0, cells_free h 1, cells_free h 2⟩
/-- What a load tells of one of the disks, and leaves. -/
def LdTells (s : St) (R : List Asn → World → Prop) (e : Ending) (w' : World) : Prop := ∃ (m : Mn) (a : Option Addr) (c : Nat) (b : Bool) (code : Int), e = .returned (.tuple #[.agg #[.int .i64 m.stage, .int .i64 m.pass, .slice a m.files.length c], .bool b, .int .i64 code]) ∧ m.files.length ≤ maxLen ∧ ldIs (loadE s) m b code ∧ R [FlA (.slice a m.files.length c) m.files] w'
theorem ps_load {F : FuncId} {args : Array Value} {P T : Asn} {L : List Asn} {s : St} {w u : World} (h : Ps (P :: L) w u) (hT : Fr T) (C : ∀ B1, P u B1 → Calls Try.prog F args u (LdGot T s B1 u)) : Calls Try.prog F args u (LdTells s fun M w' => Ps (T :: (L ++ M)) w w') := by
  obtain ⟨hF, B, ⟨B1, B2, p, r, a, e⟩, n⟩ := h
  refine (C B1 p).mono ?_
  rintro e' w' ⟨m, a', c, b, code, rfl, hl, hld, B', q, n1⟩
  refine ⟨m, a', c, b, code, rfl, hl, hld, ?_⟩
  obtain ⟨B3, h3, n3⟩ := star_of (fr_stars hF.2) r a e q n1
  refine Qs.perm (L := FlA (.slice a' m.files.length c) m.files :: T :: L) ⟨⟨fr_fl _ _, hT, hF.2⟩, B3, star_left h3, n.trans n3⟩ ?_
  exact (List.Perm.swap _ _ _).trans (List.Perm.cons _ (List.perm_append_singleton _ _).symm)
end Go.Proofs.Ytckmciafonnohaa
/- The example of layer 20's statements. (Cm: the program's Save and Load.) -/
namespace Go.Proofs.Ytckmciafonnohaa
open Go.RowKit FsPlain CrcPlain OctPlain MnPlain CmPlain
set_option linter.unusedVariables false
set_option linter.unusedSimpArgs false
set_option maxRecDepth 20000
/-- The program's disk, and some parts more, made since w. -/
def Pd20 (p : Nat) (s : St) (M : List Asn) (w u : World) : Prop := Ps (DiskA p s :: M) w u
theorem Pd20.gr {p : Nat} {s : St} {M : List Asn} {w u : World} (h : Pd20 p s M w u) : Gr w u := Qs.gr h
theorem Pd20.on {p : Nat} {s : St} {M : List Asn} {w u v : World} (h : Pd20 p s M w u) (g : Gr u v) : Pd20 p s M w v := Qs.on h g
theorem pd_save {p : Nat} {s : St} {M : List Asn} {w u : World} (h : Pd20 p s M w u) {m : Mn} {a : Option Addr} {n c : Nat} (h1 : s.calls ≤ 1000000000) (hm : LiesFl u (.slice a n c) m.files) (hl : m.files.length ≤ maxLen) (hK : ∀ f ∈ m.files, flK f) : Calls Try.prog 8 #[.pointer (some ⟨p, 0, none⟩), .agg #[.int .i64 m.stage, .int .i64 m.pass, .slice a n c]] u fun e w' => e = .returned (.int .i64 (saveR s m).2) ∧ Pd20 p (saveR s m).1 M w w' :=
  Qs.call0 (X := fun e _ => e = .returned (.int .i64 (saveR s m).2)) h (fr_disk _ _) fun B1 hp => csave20_c p s m u B1 hp h1 hm hl hK
theorem pd_load {p : Nat} {s : St} {M : List Asn} {w u : World} (h : Pd20 p s M w u) (h1 : s.calls ≤ 1000000000) (hz : ∀ x, (loadE s).2 = some x → x.length ≤ 700) : Calls Try.prog 10 #[.pointer (some ⟨p, 0, none⟩)] u (LdTells s fun N w' => Pd20 p (loadT s) (M ++ N) w w') :=
  ps_load h (fr_disk p (loadT s)) fun B1 hp => cload20_c p s u B1 hp h1 (by have hok : s.ok := hp.1; have := hok.u; have := hok.r1; omega) hz
theorem pd_new (room : Int) (h0 : 0 ≤ room) (h1 : room ≤ 16777216) (w : World) : Calls Try.prog 6 #[.int .i64 room] w fun e w' => ∃ p, e = .returned (.tuple #[.pointer (some ⟨p, 0, none⟩), .int .i64 0]) ∧ Pd20 p (fresh room) [] w w' :=
  (new_c room h0 h1 w).mono fun e w' ⟨p, B, he, hd, hg, hb⟩ => ⟨p, he, ⟨fr_disk _ _, trivial⟩, B, ⟨B, fun _ => False, hd, (fun _ h => h), (fun _ _ h => h), fun b => (or_false _).symm ▸ Iff.rfl⟩, ⟨Only.ofGr hg, fun b h => .inr (hb b h)⟩⟩
theorem fresh_smalls (room : Int) : Smalls (fresh room) := ⟨sm_none rfl, sm_none rfl⟩
set_option maxHeartbeats 4000000 in
theorem awake20_c (w : World) : Calls Try.prog 5 #[] w fun e w' => e = .returned (.bool true) ∧ Gr w w' := by
  have N0 := Lib.hid (pd_new 1000 (by decide) (by decide) w)
  obtain ⟨s1, hs1⟩ : ∃ s, loadT (fresh 1000) = s := ⟨_, rfl⟩
  have l0 : loadE (fresh 1000) = (0, none) := by kernel_rfl
  have sm1 : Smalls s1 := by rw [← hs1]; exact smalls_load (fresh_smalls 1000)
  obtain ⟨s2, hs2⟩ : ∃ s, (saveR s1 ⟨2, 0, []⟩).1 = s := ⟨_, rfl⟩
  have c2 : (saveR s1 ⟨2, 0, []⟩).2 = 0 := by rw [← hs1]; kernel_rfl
  have l2 : loadE s2 = (0, some (mnS ⟨2, 0, []⟩).data.toList) := by rw [← hs2, ← hs1]; kernel_rfl
  have k1 : s1.calls ≤ 1000 := by rw [← hs1]; exact Int.le_trans (calls_load _) (by decide)
  have k2 : s2.calls ≤ 2000 := by
    rw [← hs2]
    unfold saveR
    split
    · have := calls_save s1 (ptS ⟨2, 0, []⟩).data.toList; omega
    · show s1.calls ≤ 2000; omega
  have hb2 : mnIs (bs (mnS ⟨2, 0, []⟩).data.toList) ⟨2, 0, []⟩ := by rw [bs_toList]; exact ⟨by decide, (fun f hf => by cases hf), rfl⟩
  have z2 : ∀ x, (loadE s2).2 = some x → x.length ≤ 700 := fun x hx => by
    rw [l2] at hx
    cases hx
    have : (mnS ⟨2, 0, []⟩).size = 13 := by rw [mnS_size]; rfl
    have e : (mnS ⟨2, 0, []⟩).data.toList.length = (mnS ⟨2, 0, []⟩).size := rfl
    omega
  have c3 : ∀ t : St, (saveR t ⟨0, 0, []⟩).2 = 1 := fun t => by unfold saveR; rw [if_neg (by decide)]
  have LD0 := Lib.hid (fun p u (h : Pd20 p (fresh 1000) [] w u) => pd_load h (by show (0 : Int) ≤ _; decide) (by rw [l0]; intro x hx; cases hx))
  have SV := Lib.hid (fun p M u (h : Pd20 p s1 M w u) => by
    have := pd_save (m := ⟨2, 0, []⟩) h (by omega) (liesFl_nil u) (by unfold maxLen; simp) (fun f hf => by cases hf)
    rw [hs2, c2] at this
    exact this)
  have LD2 := Lib.hid (fun p M u (h : Pd20 p s2 M w u) => pd_load h (by omega) z2)
  have S3 := Lib.hid (fun p M u (h : Pd20 p (loadT s2) M w u) => by
    have := pd_save (m := ⟨0, 0, []⟩) h (by have := calls_load s2; omega) (liesFl_nil u) (by unfold maxLen; simp) (fun f hf => by cases hf)
    rw [c3] at this
    exact this)
  rw [hs1] at LD0
  have L0 := Lib.hid l0
  have L2 := Lib.hid l2
  have HB2 := Lib.hid hb2
  clear l0 sm1 hs1 hs2 c2 l2 k1 k2 hb2 z2 c3
  go_enter Try.func5, Try.ntmps5
  go_wp2_with fail
  refine N0.out.mono ?_; rintro e u1 ⟨p, rfl, d1⟩
  have Q1 := Lib.hid (LD0.out p u1 d1)
  clear d1
  go_wp2_with fail
  refine Q1.out.mono ?_; rintro e u2 ⟨m, a, c, b, code, rfl, _, hld, d2⟩
  obtain ⟨rfl, rfl, rfl⟩ := ldIs_one (.inl ⟨by rw [L0.out], rfl, rfl, rfl⟩) hld
  rw [L0.out]
  dsimp only [List.length_nil]
  have D2 := Lib.hid (d2.on (gr19 u2 (.cells #[.int .i64 0, .int .i64 0, .slice a 0 c] 31)))
  have Q2 := Lib.hid (SV.out p _ _ D2.out)
  clear hld d2 Q1
  go_wp2_with fail
  refine Q2.out.mono ?_; rintro e u3 ⟨rfl, d3⟩
  have Q3 := Lib.hid (LD2.out p _ u3 d3)
  clear d3 Q2
  go_wp2_with fail
  refine Q3.out.mono ?_; rintro e u4 ⟨m, a4, c4, b, code, rfl, _, hld, d4⟩
  obtain ⟨rfl, rfl, rfl⟩ := ldIs_one (.inr ⟨_, by rw [L2.out], .inl ⟨rfl, HB2.out, rfl⟩⟩) hld
  dsimp only [List.length_nil]
  have D4 := Lib.hid (d4.on (gr19 u4 (.cells #[.int .i64 2, .int .i64 0, .slice a4 0 c4] 31)))
  have Q4 := Lib.hid (S3.out p _ _ D4.out)
  clear hld d4 Q3
  go_wp2_with fail
  refine Q4.out.mono ?_; rintro e u5 ⟨rfl, d5⟩
  have G5 := Lib.hid d5.gr
  clear d5
  go_wp2_with fail
  go_ret
  exact ⟨rfl, G5.out⟩
end Go.Proofs.Ytckmciafonnohaa
/- Both disks of a law of commit: what the law asks of them beside Save, Load, Arm, Rise. -/
namespace Go.Proofs.Ytckmciafonnohaa
open Go.RowKit FsPlain CrcPlain OctPlain MnPlain CmPlain
set_option linter.unusedVariables false
set_option linter.unusedSimpArgs false
set_option maxRecDepth 20000
end Go.Proofs.Ytckmciafonnohaa
/- The states of a law of commit, round by round. -/
namespace Go.Proofs.Ytckmciafonnohaa
open Go.RowKit FsPlain CrcPlain OctPlain MnPlain CmPlain
set_option linter.unusedVariables false
set_option linter.unusedSimpArgs false
set_option maxRecDepth 20000
namespace CmPlain
theorem pt_small (m : Mn) : (ptS m).data.toList.length ≤ 700 := by
  show (ptS m).size ≤ 700
  unfold ptS
  split
  · next h =>
    have hb : newB [] m.files = true := by unfold mnB at h; rw [Bool.and_eq_true] at h; exact h.2
    have h16 : m.files.length ≤ 16 := by
      unfold mnB at h
      simp only [Bool.and_eq_true, decide_eq_true_eq] at h
      exact h.1.2.2
    have := flatl_le (l := m.files) fun f hf => by
      have := newB_all hb f hf
      unfold flB rightB at this
      simp only [Bool.and_eq_true, decide_eq_true_eq] at this
      have e : f.name.data.toList.length = f.name.size := rfl
      omega
    rw [mnS_size, ← flat_length]
    omega
  · show (0 : Nat) ≤ 700; omega
theorem smalls_saveR {s : St} (m : Mn) (h : Smalls s) : Smalls (saveR s m).1 := by
  unfold saveR
  split
  · exact smalls_save (pt_small m) h
  · exact h
theorem smalls_armed {s : St} (k : Int) (h : Smalls s) : Smalls (armed s k) := ⟨h.1.same rfl, h.2.same rfl⟩
theorem calls_saveR (s : St) (m : Mn) : (saveR s m).1.calls ≤ s.calls + 6 := by
  unfold saveR
  split
  · exact calls_save s _
  · show s.calls ≤ s.calls + 6; omega
theorem calls_riseN (s : St) (ks : List Int) (j : Nat) : (riseN s ks j).calls = s.calls := by
  induction j with
  | zero => rfl
  | succ j ih => exact ih
theorem calls_rise (s : St) (ks : List Int) : (riseR s ks).calls = s.calls := calls_riseN s ks _
/-- How a round leaves either disk. -/
def stepA (s : St) (x : Ty) : St := (saveR (armed s x.fuse) x.m).1
def stepB (s : St) (x : Ty) : St := riseR (loadT (stepA s x)) x.keep
def stepC (s : St) (x : Ty) : St := loadT (stepB s x)
theorem step_smalls {s : St} (x : Ty) (h : Smalls s) : Smalls (stepA s x) ∧ Smalls (stepB s x) ∧ Smalls (stepC s x) := by
  have a := smalls_saveR x.m (smalls_armed x.fuse h)
  have b := smalls_rise x.keep (smalls_load a)
  exact ⟨a, b, smalls_load b⟩
theorem step_calls (s : St) (x : Ty) : (stepA s x).calls ≤ s.calls + 6 ∧ (loadT (stepA s x)).calls ≤ s.calls + 8 ∧ (stepB s x).calls ≤ s.calls + 8 ∧ (stepC s x).calls ≤ s.calls + 10 := by
  have a : (stepA s x).calls ≤ (armed s x.fuse).calls + 6 := calls_saveR _ x.m
  have a' : (armed s x.fuse).calls = s.calls := rfl
  have b : (loadT (stepA s x)).calls ≤ (stepA s x).calls + 2 := calls_load _
  have c : (stepB s x).calls = (loadT (stepA s x)).calls := calls_rise _ x.keep
  have d : (stepC s x).calls ≤ (stepB s x).calls + 2 := calls_load _
  omega
/-- Both files laid ahead of all saves. -/
def laid1 : St := (createR (fresh 1048576) nameL).1
def laid2 (x : List UInt8) : St := (appendR laid1 nameL x).1
def laid3 (x : List UInt8) : St := (createR (laid2 x) wayL).1
theorem laid_smalls {x : List UInt8} (hx : x.length ≤ 100) : Smalls (laid3 x) := by
  have h0 : Smalls (fresh 1048576) := ⟨sm_none rfl, sm_none rfl⟩
  have e0 : (createR (fresh 1048576) nameL).2 = 0 := by kernel_rfl
  have h1 : Smalls laid1 := ⟨sm_create h0.1, h0.2.same (create_ne fun q => way_ne q.symm)⟩
  have h2 : Smalls (laid2 x) := by
    refine ⟨?_, h1.2.same (append_ne fun q => way_ne q.symm)⟩
    by_cases e3 : (appendR laid1 nameL x).2 = 0
    · exact sm_some (append_eq (create_eq e0) e3) (by show ([] ++ x).length ≤ 700; simp; omega)
    · exact h1.1.same (append_no e3 _)
  exact ⟨h2.1.same (create_ne way_ne), sm_create h2.2⟩
theorem laid_calls (x : List UInt8) : laid1.calls ≤ 3 ∧ (laid2 x).calls ≤ 3 ∧ (laid3 x).calls ≤ 3 := by
  have a : laid1.calls = (fresh 1048576).calls + 1 := calls_create _ _
  have b : (laid2 x).calls = laid1.calls + 1 := calls_append _ _ _
  have c : (laid3 x).calls = (laid2 x).calls + 1 := calls_create _ _
  have z : (fresh 1048576).calls = 0 := rfl
  omega
end CmPlain
end Go.Proofs.Ytckmciafonnohaa
