/- In one text: CmFew, CmTwo, CmAwake. -/
import Derived.Test.YtckmciafonnohaaGreatP38
import Derived.Test.YtckmciafonnohaaGreatP18
import Derived.Test.YtckmciafonnohaaGreatP10
import Derived.Test.YtckmciafonnohaaGreatP39
import Derived.Test.YtckmciafonnohaaGreatP35
import Derived.Test.YtckmciafonnohaaGreatP36
import Derived.Test.YtckmciafonnohaaGreatP34
/- Few tries; what else a law of commit asks of both disks. -/
namespace Go.Proofs.YtckmciafonnohaaGreat
open Go.RowKit FsPlain MnPlain
set_option linter.unusedVariables false
set_option linter.unusedSimpArgs false
set_option maxRecDepth 20000
def oneTy (x : Ty) : Bool := fewB x.m.files && decide (x.keep.length ≤ 10)
def fewTy (l : List Ty) : Bool := (l.take 8).all oneTy && decide (l.length ≤ 8)
theorem few_ty {l : List Ty} (h : fewTy l = true) : l.length ≤ 8 ∧ ∀ x ∈ l, fewB x.m.files = true ∧ x.keep.length ≤ 10 := by
  unfold fewTy at h
  rw [Bool.and_eq_true, decide_eq_true_iff, List.all_eq_true] at h
  refine ⟨h.2, fun x hx => ?_⟩
  have := h.1 x (by rw [List.take_of_length_le h.2]; exact hx)
  unfold oneTy at this
  rw [Bool.and_eq_true, decide_eq_true_iff] at this
  exact this
def FtAt (l : List Ty) (w : World) (v : Value) (wr : World) : Prop := ∃ i : Nat, i ≤ l.length ∧ i ≤ 8 ∧ v = .int .i64 (i : Int) ∧ (∀ j (hj : j < l.length), j < i → oneTy l[j] = true) ∧ Gr w wr
set_option maxHeartbeats 2000000 in
theorem few20_c {a : Option Addr} {n c : Nat} {l : List Ty} (w : World) (h : LiesTy w (.slice a n c) l) (hl : l.length ≤ maxLen) (hK : ∀ x ∈ l, tyK x) :
    Calls Tryz.prog 4 #[.slice a n c] w fun e w' => e = .returned (.bool (fewTy l)) ∧ Gr w w' := by
  have hn : n = l.length := by
    obtain ⟨a', c', e, hc, _⟩ := h
    simp only [Value.slice.injEq] at e
    exact e.2.1
  obtain ⟨r, hr⟩ : ∃ r, fewTy l = r := ⟨_, rfl⟩
  rw [hr]
  unfold maxLen at hl
  have H := Lib.hid h
  have HK := Lib.hid hK
  have HR := Lib.hid hr
  clear h hr hK
  subst hn
  go_enter Tryz.func4, Tryz.ntmps4
  go_wp2_with fail
  go_loopw [3] (fun v wr => FtAt l w v wr) (fun v _ => l.length - (intOf v).toNat)
  case atStart => exact ⟨0, Nat.zero_le _, by decide, rfl, fun j _ hj => by omega, Gr.refl _⟩
  case round =>
    obtain ⟨i, hi1, hi2, rfl, hall, g1⟩ := hrel
    have HA := Lib.hid hall
    clear hall
    by_cases hlt : i < l.length ∧ i < 8
    · obtain ⟨_, hc, b, o, rfl, hb, fa, fc, ka, kc, k0, k1, k2, k3, k4, k5, k6⟩ := ty_get (H.out.gr g1) hlt.1
      have q1 : (i : Int) < (l.length : Int) := by omega
      have q2 : (i : Int) < 8 := by omega
      have hkx := HK.out _ (List.getElem_mem hlt.1)
      have RF0 := rfew_c l[i].m.stage l[i].m.pass fa l[i].m.files.length fc l[i].m.files wr k5 hkx.1.1
      obtain ⟨x, hx⟩ : ∃ x, l[i] = x := ⟨_, rfl⟩
      rw [hx] at k0 k1 k2 k3 k4 RF0
      have hno : oneTy x = false → r = false := fun hf => by
        rw [← HR.out]
        unfold fewTy
        rw [Bool.and_eq_false_iff, List.all_eq_false]
        left
        exact ⟨l[i], by rw [List.mem_iff_getElem]; exact ⟨i, by rw [List.length_take]; omega, by rw [List.getElem_take]⟩, by rw [hx, hf]; simp⟩
      have hyes : oneTy x = true → ∀ j (hj : j < l.length), j < i + 1 → oneTy l[j] = true := fun ht j hj hji => by
        by_cases e : j = i
        · subst e; rw [hx]; exact ht
        · exact HA.out j hj (by omega)
      cases hfb : fewB x.m.files
      · rw [hfb] at RF0
        have RF := Lib.hid RF0
        obtain rfl : r = false := hno (by unfold oneTy; rw [hfb]; rfl)
        clear RF0 hno hyes hkx hx hfb hlt k5 k6
        go_wp2_with fail
        refine RF.out.mono ?_; rintro e u ⟨rfl, g2⟩
        go_wp2_with fail
        go_ret
        exact ⟨rfl, g1.trans g2⟩
      · rw [hfb] at RF0
        have RF := Lib.hid RF0
        have KC := Lib.hid (fun u (g : Gr wr u) => (Below.cell g (p := ⟨b, o + i * 5 + 4, none⟩) hb).trans k4)
        by_cases hk10 : x.keep.length ≤ 10
        · have q3 : ¬ (10 : Int) < (x.keep.length : Int) := by omega
          have NX := Lib.hid (hyes (by unfold oneTy; rw [hfb, decide_eq_true hk10]; rfl))
          clear RF0 hno hyes hkx hx hfb hlt k5 k6 hk10
          go_wp2_with fail
          refine RF.out.mono ?_; rintro e u ⟨rfl, g2⟩
          have k4 := KC.out u g2
          go_wp2_with fail
          go_roundw
          case rel => exact ⟨i + 1, by omega, by omega, by rw [show ((i + 1 : Nat) : Int) = (i : Int) + 1 by omega], NX.out, g1.trans g2⟩
          case measure => simp [intOf]; omega
        · have q3 : (10 : Int) < (x.keep.length : Int) := by omega
          obtain rfl : r = false := hno (by unfold oneTy; rw [hfb, decide_eq_false hk10]; rfl)
          clear RF0 hno hyes hkx hx hfb hlt k5 k6 hk10
          go_wp2_with fail
          refine RF.out.mono ?_; rintro e u ⟨rfl, g2⟩
          have k4 := KC.out u g2
          go_wp2_with fail
          go_ret
          exact ⟨rfl, g1.trans g2⟩
    · have er : r = decide ((l.length : Int) ≤ 8) := by
        rw [← HR.out]
        unfold fewTy
        have e1 : (l.take 8).all oneTy = true := by
          rw [List.all_eq_true]
          intro f hf
          obtain ⟨j, hj, rfl⟩ := List.mem_iff_getElem.1 hf
          rw [List.length_take] at hj
          rw [List.getElem_take]
          exact HA.out j (by omega) (by omega)
        rw [e1, Bool.true_and]
        exact decide_eq_decide.2 (by omega)
      subst er
      by_cases q1 : (i : Int) < (l.length : Int)
      · have q2 : ¬ (i : Int) < 8 := by omega
        clear hlt
        go_wp2_with fail
        go_ret
        exact ⟨rfl, g1⟩
      · clear hlt
        go_wp2_with fail
        go_ret
        exact ⟨rfl, g1⟩
/-- Both disks' Rise with whatever stays; Arm and Used of the document's. -/
theorem d_risek (p : Nat) (s : St) (ka : Option Addr) (ks : List Int) (kc : Nat) (w : World) (B : Nat → Prop) (h : DiskA p s w B) (hK : KeepR w ka ks) (hkB : ∀ b o, ka = some ⟨b, o, none⟩ → ¬ B b) (hks : ∀ k ∈ ks, I64 k) (hkl : ks.length ≤ 1000000) :
    Calls Tryz.prog 20 #[.pointer (some ⟨p, 0, none⟩), .slice ka ks.length kc] w (Does w B (DiskA p (riseR s ks)) (.tuple #[])) :=
  (rise_c p s B ka ks kc w h (hK.imp id fun ⟨kb, ko, e, hb, hc⟩ => ⟨kb, ko, e, hb, hkB kb ko e, hc⟩) hks (by omega)).mono fun _ _ => tells_does
theorem r_used (d : Nat) (s : St) (w : World) (B : Nat → Prop) (h : RDiskA d s w B) : Calls Tryz.prog 23 #[.pointer (some ⟨d, 0, none⟩)] w fun e w' => e = .returned (.int .i64 (used s.fs : Int)) ∧ Gr w w' := by
  obtain ⟨hok, _, v, hv, _⟩ := h
  exact rused_c d s v w hok hv
end Go.Proofs.YtckmciafonnohaaGreat
/- Both disks of a law of commit, apart from one another: each call on either. -/
namespace Go.Proofs.YtckmciafonnohaaGreat
open Go.RowKit FsPlain CrcPlain OctPlain MnPlain CmPlain
set_option linter.unusedVariables false
set_option linter.unusedSimpArgs false
set_option maxRecDepth 20000
/-- The program's disk is s, the document's t; both, and some parts more, are made since w. -/
def Pl20 (p d : Nat) (s t : St) (M : List Asn) (w wr : World) : Prop := Ps (DiskA p s :: RDiskA d t :: M) w wr
theorem Pl20.gr {p d : Nat} {s t : St} {M : List Asn} {w u : World} (h : Pl20 p d s t M w u) : Gr w u := Qs.gr h
theorem Pl20.on {p d : Nat} {s t : St} {M : List Asn} {w u v : World} (h : Pl20 p d s t M w u) (g : Gr u v) : Pl20 p d s t M w v := Qs.on h g
/-- A block more, behind both disks. -/
theorem Pl20.blk {p d : Nat} {s t : St} {M : List Asn} {w u v : World} {c : Array Value} {T : TypeId} (h : Pl20 p d s t M w u) (hv : v = u.alloc (.cells c T)) : Pl20 p d s t (Blk u.heap.size c T :: M) w v :=
  Qs.perm (Qs.blk_new h c T hv) (List.perm_middle (l₁ := [DiskA p s, RDiskA d t])).symm
theorem Pl20.at {p d : Nat} {s t : St} {M : List Asn} {w u : World} {X : Nat} {c : Array Value} {T : TypeId} (h : Pl20 p d s t M w u) (i : Nat) (hi : M[i]? = some (Blk X c T)) : u.heap[X]? = some (.cells c T (0, 0)) := Qs.blk h (i + 2) hi
theorem Pl20.fl {p d : Nat} {s t : St} {M : List Asn} {w u : World} {v : Value} {l : List Fl} (h : Pl20 p d s t M w u) (i : Nat) (hi : M[i]? = some (FlA v l)) : LiesFl u v l := by
  obtain ⟨_, q⟩ := Qs.part h (i + 2) hi
  exact q.1
theorem Pl20.set3 {p d : Nat} {s t : St} {M : List Asn} {w u : World} {X : Nat} {c : Array Value} {T : TypeId} (h : Pl20 p d s t M w u) (i : Nat) (hi : M[i]? = some (Blk X c T)) (hc : c.size = 3) (x y z : Value) : Pl20 p d s t (M.set i (Blk X #[x, y, z] T)) w (((u.setCell ⟨X, 0, none⟩ x).setCell ⟨X, 1, none⟩ y).setCell ⟨X, 2, none⟩ z) := Qs.set3 h (i + 2) hi hc x y z
/-- Both disks alone. -/
theorem Pl20.bare {p d : Nat} {s t : St} {M : List Asn} {w u : World} (h : Pl20 p d s t M w u) : Pl20 p d s t [] w u := by
  induction M with
  | nil => exact h
  | cons Q M ih => exact ih (Qs.tail (Qs.perm h (List.perm_middle (l₁ := [DiskA p s, RDiskA d t]))))
/-- A manifest's cells, which may be written. -/
theorem mn_cells {u : World} {X : Nat} {x y : Int} {v : Value} {T : TypeId} (h : u.heap[X]? = some (.cells #[.int .i64 x, .int .i64 y, v] T (0, 0))) : (u.cell? ⟨X, 0, none⟩ = some (.int .i64 x) ∧ u.cell? ⟨X, 1, none⟩ = some (.int .i64 y) ∧ u.cell? ⟨X, 2, none⟩ = some v) ∧ u.frozen? ⟨X, 0, none⟩ = false ∧ u.frozen? ⟨X, 1, none⟩ = false ∧ u.frozen? ⟨X, 2, none⟩ = false :=
  ⟨⟨by rw [cells_at h]; rfl, by rw [cells_at h]; rfl, by rw [cells_at h]; rfl⟩, cells_free h 0, cells_free h 1, cells_free h 2⟩
theorem on_left {F : FuncId} {args : Array Value} {X : Ending → World → Prop} {p d : Nat} {s s' t : St} {M : List Asn} {w u : World} (h : Pl20 p d s t M w u) (C : ∀ B1, DiskA p s u B1 → Calls Tryz.prog F args u fun e w' => X e w' ∧ ∃ B', DiskA p s' w' B' ∧ Nx B1 u B' w') : Calls Tryz.prog F args u fun e w' => X e w' ∧ Pl20 p d s' t M w w' := Qs.call0 h (fr_disk p s') C
theorem on_right {F : FuncId} {args : Array Value} {X : Ending → World → Prop} {p d : Nat} {s t t' : St} {M : List Asn} {w u : World} (h : Pl20 p d s t M w u) (C : ∀ B1, RDiskA d t u B1 → Calls Tryz.prog F args u fun e w' => X e w' ∧ ∃ B', RDiskA d t' w' B' ∧ Nx B1 u B' w') : Calls Tryz.prog F args u fun e w' => X e w' ∧ Pl20 p d s t' M w w' := Qs.call1 h (fr_rdisk d t') C
theorem tw_arm_p {p d : Nat} {s t : St} {M : List Asn} {w u : World} (h : Pl20 p d s t M w u) (k : Int) (hk : I64 k) : Calls Tryz.prog 12 #[.pointer (some ⟨p, 0, none⟩), .int .i64 k] u fun e w' => e = .returned (.tuple #[]) ∧ Pl20 p d (armed s k) t M w w' :=
  on_left (X := fun e _ => e = .returned (.tuple #[])) h fun B1 hp => d_arm p s k hk.1 hk.2 u B1 hp
theorem tw_arm_d {p d : Nat} {s t : St} {M : List Asn} {w u : World} (h : Pl20 p d s t M w u) (k : Int) (hk : I64 k) : Calls Tryz.prog 13 #[.pointer (some ⟨d, 0, none⟩), .int .i64 k] u fun e w' => e = .returned (.tuple #[]) ∧ Pl20 p d s (armed t k) M w w' :=
  on_right (X := fun e _ => e = .returned (.tuple #[])) h fun B1 hr => rarm_c d t k u hr hk
theorem tw_rise_p {p d : Nat} {s t : St} {M : List Asn} {w u : World} (h : Pl20 p d s t M w u) {ka : Option Addr} {ks : List Int} {kc : Nat} (hK : KeepR w ka ks) (hks : ∀ k ∈ ks, I64 k) (hkl : ks.length ≤ 1000000) : Calls Tryz.prog 20 #[.pointer (some ⟨p, 0, none⟩), .slice ka ks.length kc] u fun e w' => e = .returned (.tuple #[]) ∧ Pl20 p d (riseR s ks) t M w w' := by
  have g := h.gr
  obtain ⟨hF, B, ⟨B1, B2, hp, hr, a, e⟩, n⟩ := h
  have hnew : ∀ b, B1 b → w.heap.size ≤ b := fun b hb => (n.new b ((e b).2 (.inl hb))).elim (fun h => h.elim) id
  have fin : ∀ e' w', (Does u B1 (DiskA p (riseR s ks)) (.tuple #[])) e' w' → e' = .returned (.tuple #[]) ∧ Pl20 p d (riseR s ks) t M w w' := by
    rintro e' w' ⟨hx, B', q, n1⟩
    refine ⟨hx, ⟨fr_disk _ _, hF.2⟩, ?_⟩
    obtain ⟨B3, h3, n3⟩ := star_of (fr_stars hF.2) hr a e q n1
    exact ⟨B3, h3, n.trans n3⟩
  rcases hK with rfl | ⟨kb, ko, rfl, hb, hc⟩
  · have C : Calls Tryz.prog 20 #[.pointer (some ⟨p, 0, none⟩), .slice ka ([] : List Int).length kc] u (Does u B1 (DiskA p (riseR s [])) (.tuple #[])) := (rise_c p s B1 ka [] kc u hp (.inl rfl) (by simp) (by simp)).mono fun _ _ => tells_does
    exact C.mono fin
  · have C := d_risek p s (some ⟨kb, ko, none⟩) ks kc u B1 hp (KeepR.gr (.inr ⟨kb, ko, rfl, hb, hc⟩) g) (fun b o e2 hB => by
      simp only [Option.some.injEq, Addr.mk.injEq] at e2
      have := hnew b hB
      omega) hks hkl
    exact C.mono fin
theorem tw_rise_d {p d : Nat} {s t : St} {M : List Asn} {w u : World} (h : Pl20 p d s t M w u) {ka : Option Addr} {ks : List Int} {kc : Nat} (hK : KeepR w ka ks) (hkl : ks.length ≤ 1000000) : Calls Tryz.prog 21 #[.pointer (some ⟨d, 0, none⟩), .slice ka ks.length kc] u fun e w' => e = .returned (.tuple #[]) ∧ Pl20 p d s (riseR t ks) M w w' :=
  on_right (X := fun e _ => e = .returned (.tuple #[])) h fun B1 hr => r_rise d t ka ks kc u B1 hr (hK.gr h.gr) hkl
theorem tw_save_d {p d : Nat} {s t : St} {M : List Asn} {w u : World} (h : Pl20 p d s t M w u) {m : Mn} {a : Option Addr} {n c : Nat} (h1 : t.calls ≤ 1000000000) (hm : LiesFl w (.slice a n c) m.files) (hl : m.files.length ≤ maxLen) (hK : ∀ f ∈ m.files, flK f) (hs : I64 m.stage) (hp : I64 m.pass) : Calls Tryz.prog 15 #[.pointer (some ⟨d, 0, none⟩), .agg #[.int .i64 m.stage, .int .i64 m.pass, .slice a n c]] u fun e w' => e = .returned (.int .i64 (saveR t m).2) ∧ Pl20 p d s (saveR t m).1 M w w' :=
  on_right (X := fun e _ => e = .returned (.int .i64 (saveR t m).2)) h fun B1 hr => rsave20_c d t m u B1 hr h1 (hm.gr h.gr) hl hK hs hp
/-- What a load tells of one of the disks, and leaves. -/
def LdTells (s : St) (R : List Asn → World → Prop) (e : Ending) (w' : World) : Prop := ∃ (m : Mn) (a : Option Addr) (c : Nat) (b : Bool) (code : Int), e = .returned (.tuple #[.agg #[.int .i64 m.stage, .int .i64 m.pass, .slice a m.files.length c], .bool b, .int .i64 code]) ∧ m.files.length ≤ maxLen ∧ ldIs (loadE s) m b code ∧ R [FlA (.slice a m.files.length c) m.files] w'
theorem ps_load {F : FuncId} {args : Array Value} {P T : Asn} {L : List Asn} {s : St} {w u : World} (h : Ps (P :: L) w u) (hT : Fr T) (C : ∀ B1, P u B1 → Calls Tryz.prog F args u (LdGot T s B1 u)) : Calls Tryz.prog F args u (LdTells s fun M w' => Ps (T :: (L ++ M)) w w') := by
  obtain ⟨hF, B, ⟨B1, B2, p, r, a, e⟩, n⟩ := h
  refine (C B1 p).mono ?_
  rintro e' w' ⟨m, a', c, b, code, rfl, hl, hld, B', q, n1⟩
  refine ⟨m, a', c, b, code, rfl, hl, hld, ?_⟩
  obtain ⟨B3, h3, n3⟩ := star_of (fr_stars hF.2) r a e q n1
  refine Qs.perm (L := FlA (.slice a' m.files.length c) m.files :: T :: L) ⟨⟨fr_fl _ _, hT, hF.2⟩, B3, star_left h3, n.trans n3⟩ ?_
  exact (List.Perm.swap _ _ _).trans (List.Perm.cons _ (List.perm_append_singleton _ _).symm)
theorem tw_load_d {p d : Nat} {s t : St} {M : List Asn} {w u : World} (h : Pl20 p d s t M w u) (h1 : t.calls ≤ 1000000000) (hz : ∀ x, (loadE t).2 = some x → x.length ≤ 700) : Calls Tryz.prog 18 #[.pointer (some ⟨d, 0, none⟩)] u (LdTells t fun N w' => Pl20 p d s (loadT t) (M ++ N) w w') := by
  refine (ps_load (Qs.perm h (List.Perm.swap _ _ _)) (fr_rdisk d (loadT t)) fun B1 hr => rload20_c d t u B1 hr h1 (by have := hr.1.u; have := hr.1.r1; omega) hz).mono ?_
  rintro e w' ⟨m, a, c, b, code, he, hl, hld, k⟩
  exact ⟨m, a, c, b, code, he, hl, hld, k.perm (List.Perm.swap _ _ _)⟩
end Go.Proofs.YtckmciafonnohaaGreat
/- The example of layer 20's statements. (Cm: the program's Save and Load.) -/
namespace Go.Proofs.YtckmciafonnohaaGreat
open Go.RowKit FsPlain CrcPlain OctPlain MnPlain CmPlain
set_option linter.unusedVariables false
set_option linter.unusedSimpArgs false
set_option maxRecDepth 20000
/-- The program's disk, and some parts more, made since w. -/
def Pd20 (p : Nat) (s : St) (M : List Asn) (w u : World) : Prop := Ps (DiskA p s :: M) w u
theorem Pd20.gr {p : Nat} {s : St} {M : List Asn} {w u : World} (h : Pd20 p s M w u) : Gr w u := Qs.gr h
theorem Pd20.on {p : Nat} {s : St} {M : List Asn} {w u v : World} (h : Pd20 p s M w u) (g : Gr u v) : Pd20 p s M w v := Qs.on h g
theorem pd_save {p : Nat} {s : St} {M : List Asn} {w u : World} (h : Pd20 p s M w u) {m : Mn} {a : Option Addr} {n c : Nat} (h1 : s.calls ≤ 1000000000) (hm : LiesFl u (.slice a n c) m.files) (hl : m.files.length ≤ maxLen) (hK : ∀ f ∈ m.files, flK f) : Calls Tryz.prog 14 #[.pointer (some ⟨p, 0, none⟩), .agg #[.int .i64 m.stage, .int .i64 m.pass, .slice a n c]] u fun e w' => e = .returned (.int .i64 (saveR s m).2) ∧ Pd20 p (saveR s m).1 M w w' :=
  Qs.call0 (X := fun e _ => e = .returned (.int .i64 (saveR s m).2)) h (fr_disk _ _) fun B1 hp => csave20_c p s m u B1 hp h1 hm hl hK
theorem pd_load {p : Nat} {s : St} {M : List Asn} {w u : World} (h : Pd20 p s M w u) (h1 : s.calls ≤ 1000000000) (hz : ∀ x, (loadE s).2 = some x → x.length ≤ 700) : Calls Tryz.prog 17 #[.pointer (some ⟨p, 0, none⟩)] u (LdTells s fun N w' => Pd20 p (loadT s) (M ++ N) w w') :=
  ps_load h (fr_disk p (loadT s)) fun B1 hp => cload20_c p s u B1 hp h1 (by have hok : s.ok := hp.1; have := hok.u; have := hok.r1; omega) hz
theorem pd_new (room : Int) (h0 : 0 ≤ room) (h1 : room ≤ 16777216) (w : World) : Calls Tryz.prog 6 #[.int .i64 room] w fun e w' => ∃ p, e = .returned (.tuple #[.pointer (some ⟨p, 0, none⟩), .int .i64 0]) ∧ Pd20 p (fresh room) [] w w' :=
  (new_c room h0 h1 w).mono fun e w' ⟨p, B, he, hd, hg, hb⟩ => ⟨p, he, ⟨fr_disk _ _, trivial⟩, B, ⟨B, fun _ => False, hd, (fun _ h => h), (fun _ _ h => h), fun b => (or_false _).symm ▸ Iff.rfl⟩, ⟨Only.ofGr hg, fun b h => .inr (hb b h)⟩⟩
theorem fresh_smalls (room : Int) : Smalls (fresh room) := ⟨sm_none rfl, sm_none rfl⟩
set_option maxHeartbeats 4000000 in
theorem awake20_c (w : World) : Calls Tryz.prog 5 #[] w fun e w' => e = .returned (.bool true) ∧ Gr w w' := by
  have N0 := Lib.hid (pd_new 1000 (by decide) (by decide) w)
  obtain ⟨s1, hs1⟩ : ∃ s, loadT (fresh 1000) = s := ⟨_, rfl⟩
  have l0 : loadE (fresh 1000) = (0, none) := by kernel_rfl
  have sm1 : Smalls s1 := by rw [← hs1]; exact smalls_load (fresh_smalls 1000)
  obtain ⟨s2, hs2⟩ : ∃ s, (saveR s1 ⟨2, 0, []⟩).1 = s := ⟨_, rfl⟩
  have c2 : (saveR s1 ⟨2, 0, []⟩).2 = 0 := by rw [← hs1]; kernel_rfl
  have l2 : loadE s2 = (0, some (mnS ⟨2, 0, []⟩).data.toList) := by rw [← hs2, ← hs1]; kernel_rfl
  have k1 : s1.calls ≤ 1000 := by rw [← hs1]; exact Int.le_trans (calls_load _) (by decide)
  have k2 : s2.calls ≤ 2000 := by
    rw [← hs2]
    unfold saveR
    split
    · have := calls_save s1 (ptS ⟨2, 0, []⟩).data.toList; omega
    · show s1.calls ≤ 2000; omega
  have hb2 : mnIs (bs (mnS ⟨2, 0, []⟩).data.toList) ⟨2, 0, []⟩ := by rw [bs_toList]; exact ⟨by decide, (fun f hf => by cases hf), rfl⟩
  have z2 : ∀ x, (loadE s2).2 = some x → x.length ≤ 700 := fun x hx => by
    rw [l2] at hx
    cases hx
    have : (mnS ⟨2, 0, []⟩).size = 13 := by rw [mnS_size]; rfl
    have e : (mnS ⟨2, 0, []⟩).data.toList.length = (mnS ⟨2, 0, []⟩).size := rfl
    omega
  have c3 : ∀ t : St, (saveR t ⟨0, 0, []⟩).2 = 1 := fun t => by unfold saveR; rw [if_neg (by decide)]
  have LD0 := Lib.hid (fun p u (h : Pd20 p (fresh 1000) [] w u) => pd_load h (by show (0 : Int) ≤ _; decide) (by rw [l0]; intro x hx; cases hx))
  have SV := Lib.hid (fun p M u (h : Pd20 p s1 M w u) => by
    have := pd_save (m := ⟨2, 0, []⟩) h (by omega) (liesFl_nil u) (by unfold maxLen; simp) (fun f hf => by cases hf)
    rw [hs2, c2] at this
    exact this)
  have LD2 := Lib.hid (fun p M u (h : Pd20 p s2 M w u) => pd_load h (by omega) z2)
  have S3 := Lib.hid (fun p M u (h : Pd20 p (loadT s2) M w u) => by
    have := pd_save (m := ⟨0, 0, []⟩) h (by have := calls_load s2; omega) (liesFl_nil u) (by unfold maxLen; simp) (fun f hf => by cases hf)
    rw [c3] at this
    exact this)
  rw [hs1] at LD0
  have L0 := Lib.hid l0
  have L2 := Lib.hid l2
  have HB2 := Lib.hid hb2
  clear l0 sm1 hs1 hs2 c2 l2 k1 k2 hb2 z2 c3
  go_enter Tryz.func5, Tryz.ntmps5
  go_wp2_with fail
  refine N0.out.mono ?_; rintro e u1 ⟨p, rfl, d1⟩
  have Q1 := Lib.hid (LD0.out p u1 d1)
  clear d1
  go_wp2_with fail
  refine Q1.out.mono ?_; rintro e u2 ⟨m, a, c, b, code, rfl, _, hld, d2⟩
  obtain ⟨rfl, rfl, rfl⟩ := ldIs_one (.inl ⟨by rw [L0.out], rfl, rfl, rfl⟩) hld
  rw [L0.out]
  dsimp only [List.length_nil]
  have D2 := Lib.hid (d2.on (gr19 u2 (.cells #[.int .i64 0, .int .i64 0, .slice a 0 c] 36)))
  have Q2 := Lib.hid (SV.out p _ _ D2.out)
  clear hld d2 Q1
  go_wp2_with fail
  refine Q2.out.mono ?_; rintro e u3 ⟨rfl, d3⟩
  have Q3 := Lib.hid (LD2.out p _ u3 d3)
  clear d3 Q2
  go_wp2_with fail
  refine Q3.out.mono ?_; rintro e u4 ⟨m, a4, c4, b, code, rfl, _, hld, d4⟩
  obtain ⟨rfl, rfl, rfl⟩ := ldIs_one (.inr ⟨_, by rw [L2.out], .inl ⟨rfl, HB2.out, rfl⟩⟩) hld
  dsimp only [List.length_nil]
  have D4 := Lib.hid (d4.on (gr19 u4 (.cells #[.int .i64 2, .int .i64 0, .slice a4 0 c4] 36)))
  have Q4 := Lib.hid (S3.out p _ _ D4.out)
  clear hld d4 Q3
  go_wp2_with fail
  refine Q4.out.mono ?_; rintro e u5 ⟨rfl, d5⟩
  have G5 := Lib.hid d5.gr
  clear d5
  go_wp2_with fail
  go_ret
  exact ⟨rfl, G5.out⟩
end Go.Proofs.YtckmciafonnohaaGreat
