/- In one text: CmL, CmAwake, CmPlay, CmBoth, ScBoth. -/
import Derived.Test.YtignfbdgpgidpaaGreatDoorS32
import Derived.Test.YtignfbdgpgidpaaGreatDoorS30
import Derived.Test.YtignfbdgpgidpaaGreatDoorS15
import Derived.Test.YtignfbdgpgidpaaGreatDoorS31
import Derived.Test.YtignfbdgpgidpaaGreatDoorS18
/- The program's layer 20: Load. -/
namespace Go.Proofs.YtignfbdgpgidpaaGreatDoor
open Go.RowKit FsPlain CrcPlain OctPlain MnPlain CmPlain
set_option linter.unusedVariables false
set_option linter.unusedSimpArgs false
set_option maxRecDepth 20000
set_option maxHeartbeats 8000000 in
theorem cload20_c (p : Nat) (s : St) (w : World) (B : Nat → Prop) (hd : DiskA p s w B) (h1 : s.calls ≤ 1000000000) (hu : used s.fs ≤ 16777216) (hz : ∀ t, (loadE s).2 = some t → t.length ≤ 700) :
    Calls Tryz.prog 97 #[.pointer (some ⟨p, 0, none⟩)] w (LdGot (DiskA p (loadT s)) s B w) := by
  obtain ⟨W, hW⟩ : ∃ W, W = w.alloc (.cells #[.int .i64 0, .int .i64 0, .slice none 0 0] 27) := ⟨_, rfl⟩
  have gW : Gr w W := by rw [hW]; exact gr19 _ _
  have hzW : W.heap.size = w.heap.size + 1 := by rw [hW]; simp
  have yW : W.heap[w.heap.size]? = some (.cells #[.int .i64 0, .int .i64 0, .slice none 0 0] 27 (0, 0)) := by rw [hW]; exact heap_alloc_new w _
  have hBl : ∀ b, B b → b < w.heap.size := (fr_disk p s).lo hd
  have GD : DiskA p s W B := star_gr (fr_disk p s) hd gW
  have KB := Lib.hid (fun (t : St) (u : World) (B1 : Nat → Prop) (h : DiskA p t u B1) (n : Nx B W B1 u) => (n.only.block _ (by omega) (fun e => by have := hBl _ e; omega)).trans yW)
  have KZ := Lib.hid (fun (t : St) (u : World) (B1 : Nat → Prop) (h : DiskA p t u B1) (n : Nx B W B1 u) (x : u.heap[w.heap.size]? = some (.cells #[.int .i64 0, .int .i64 0, .slice none 0 0] 27 (0, 0))) (a b c : Value) => by
    obtain ⟨q1, q2⟩ := mn_store2 x rfl a b c
    have hn : ∀ k, B1 k → ¬ (k = w.heap.size) := fun k hk e => by
      rcases n.new k hk with h1 | h1
      · have := hBl k h1; omega
      · omega
    exact (⟨q1, q2, (fr_disk p t).fr h q2 hn, (n.only.trans (Only.refl _ _) |> fun o => (⟨(Only.ofGr gW).trans o |>.andThen q2 fun k e => .inr (by omega), fun k hk => (n.new k hk).imp id fun h2 => by omega⟩ : Nx B w B1 _))⟩ : (((u.setCell ⟨w.heap.size, 0, none⟩ a).setCell ⟨w.heap.size, 1, none⟩ b).setCell ⟨w.heap.size, 2, none⟩ c).heap[w.heap.size]? = some (.cells #[a, b, c] 27 (0, 0)) ∧ Only (fun i => i = w.heap.size) u (((u.setCell ⟨w.heap.size, 0, none⟩ a).setCell ⟨w.heap.size, 1, none⟩ b).setCell ⟨w.heap.size, 2, none⟩ c) ∧ DiskA p t (((u.setCell ⟨w.heap.size, 0, none⟩ a).setCell ⟨w.heap.size, 1, none⟩ b).setCell ⟨w.heap.size, 2, none⟩ c) B1 ∧ Nx B w B1 (((u.setCell ⟨w.heap.size, 0, none⟩ a).setCell ⟨w.heap.size, 1, none⟩ b).setCell ⟨w.heap.size, 2, none⟩ c)))
  have ZC := Lib.hid (fun (u : World) (x : u.heap[w.heap.size]? = some (.cells #[.int .i64 0, .int .i64 0, .slice none 0 0] 27 (0, 0))) => (⟨by rw [cells_at x]; rfl, by rw [cells_at x]; rfl, by rw [cells_at x]; rfl, cells_free x 0, cells_free x 1, cells_free x 2⟩ : u.cell? ⟨w.heap.size, 0, none⟩ = some (.int .i64 0) ∧ u.cell? ⟨w.heap.size, 1, none⟩ = some (.int .i64 0) ∧ u.cell? ⟨w.heap.size, 2, none⟩ = some (.slice none 0 0) ∧ u.frozen? ⟨w.heap.size, 0, none⟩ = false ∧ u.frozen? ⟨w.heap.size, 1, none⟩ = false ∧ u.frozen? ⟨w.heap.size, 2, none⟩ = false))
  obtain ⟨n1, hn1, hn2⟩ := size_nat s nameL
  obtain ⟨e1, he1⟩ : ∃ r, (sizeR s nameL).2 = r := ⟨_, rfl⟩
  have LK := look_c p s nameS (by decide) name_right (by omega) W B GD
  rw [show nameS.data.toList = nameL from rfl] at LK
  obtain ⟨⟨t, e2⟩, hr2⟩ : ∃ q, readR s.call nameL 0 n1 = q := ⟨_, rfl⟩
  have RD := Lib.hid (fun u B1 (hh : DiskA p s.call u B1) => (show Calls Tryz.prog 118 #[.pointer (some ⟨p, 0, none⟩), .string ⟨#[109, 97, 110, 105, 102, 101, 115, 116]⟩, .int .i64 0, .int .i64 (n1 : Int)] u (Does u B1 (DiskA p s.call.call) (.tuple #[.string (bs t), .int .i64 e2])) from by
    have := d_read p s.call nameS 0 n1 (by decide) name_right (by show s.calls + 1 ≤ _; omega) (by omega) (by omega) u B1 hh
    rw [show readR s.call nameS.data.toList 0 n1 = (t, e2) from hr2] at this
    exact this))
  have hLE : loadE s = if e1 = 2 then (0, none) else if e1 ≠ 0 then (e1, none) else if e2 ≠ 0 then (e2, none) else (0, some t) := by
    unfold loadE
    rw [he1, hn1, Int.toNat_natCast, hr2]
  have hLT : loadT s = if e1 = 0 then s.call.call else s.call := by unfold loadT; rw [he1]
  rw [hLT]
  have HW := Lib.hid hW
  have HS := Lib.hid (show w.heap.size ≤ W.heap.size from gW.size)
  by_cases c2 : e1 = 0
  · subst c2
    rw [if_pos rfl]
    have lk : lookN s nameL = (n1 : Int) ∧ lookB s nameL = true ∧ lookC s nameL = 0 := by
      unfold lookN lookB lookC
      rw [he1, hn1]
      exact ⟨rfl, rfl, rfl⟩
    rw [lk.1, lk.2.1, lk.2.2] at LK
    have SZ := Lib.hid (show Calls Tryz.prog 89 #[.pointer (some ⟨p, 0, none⟩), .string ⟨#[109, 97, 110, 105, 102, 101, 115, 116]⟩] W (Does W B (DiskA p s.call) (.tuple #[.int .i64 (n1 : Int), .bool true, .int .i64 0])) from LK)
    clear hW gW hzW yW hBl GD hd hn1 hn2 he1 hr2 hLT hu LK lk
    by_cases c3 : e2 = 0
    · subst c3
      have hle := Lib.hid (show loadE s = (0, some t) by rw [hLE, if_neg (by decide), if_neg (by decide), if_neg (by decide)])
      have ht := hz t (by rw [hle.out])
      have GT := Lib.hid (fun u => get19_c (bs t) (by rw [bs_size]; omega) u)
      clear hLE ht hz
      go_enter Tryz.func97, Tryz.ntmps97
      go_wp2_with fail
      rw [← HW.out]
      refine SZ.out.mono ?_; rintro e u1 ⟨rfl, B1, dd, nn⟩
      have D1 := Lib.hid (show DiskA p s.call u1 B1 ∧ Nx B W B1 u1 from ⟨dd, nn⟩)
      clear dd nn
      have RD1 := Lib.hid (RD.out u1 B1 D1.out.1)
      go_wp2_with fail
      refine RD1.out.mono ?_; rintro e u2 ⟨rfl, B2, dd, nn⟩
      have D2 := Lib.hid (show DiskA p s.call.call u2 B2 ∧ Nx B W B2 u2 from ⟨dd, D1.out.2.trans nn⟩)
      clear dd nn RD1
      go_wp2_with fail
      refine (GT.out u2).mono ?_; intro e u3 h3
      obtain ⟨m, ma, mc, b, rfl, hm, hml, hgt, g3, hnv⟩ := gt_cases2 h3
      have NV2 := Lib.hid (show NewFl u2 (.slice ma m.files.length mc) ∧ (∀ b, B2 b → b < u2.heap.size) ∧ w.heap.size ≤ u2.heap.size from ⟨hnv, fun b hb => (fr_disk p _).lo D2.out.1 b hb, by have := D2.out.2.only.size; have := HS.out; omega⟩)
      clear hnv
      obtain ⟨V, hV⟩ : ∃ V, u3.alloc (.cells #[.int .i64 m.stage, .int .i64 m.pass, .slice ma m.files.length mc] 27) = V := ⟨_, rfl⟩
      have gV : Gr u3 V := by rw [← hV]; exact gr19 _ _
      have bV := mnB_at (show V.heap[u3.heap.size]? = some (.cells #[.int .i64 m.stage, .int .i64 m.pass, .slice ma m.files.length mc] 27 (0, 0)) by rw [← hV]; exact heap_alloc_new u3 _)
      obtain ⟨k0, k1, k2⟩ := bV
      have hmV := hm.gr gV
      have DV : DiskA p s.call.call V B2 := star_gr (fr_disk p _) D2.out.1 (g3.trans gV)
      have NV : Nx B W B2 V := D2.out.2.trans (Nx.gr (g3.trans gV))
      have xV := KB.out _ V B2 DV NV
      obtain ⟨c0, c1', c2', f0, f1, f2⟩ := ZC.out V xV
      rcases hgt with ⟨rfl, hmi⟩ | ⟨rfl, rfl, hno⟩
      · have z := KZ.out _ V B2 DV NV xV (.int .i64 m.stage) (.int .i64 m.pass) (.slice ma m.files.length mc)
        have Z := Lib.hid z
        have LS := Lib.hid (hmV.stay2 xV z.2.1)
        have HM := Lib.hid (And.intro hmi hml)
        clear h3 hm hml hmi g3 gV hmV DV NV xV z
        go_wp2_with fail
        exact bodyPost_ret (mn_results3 rfl rfl rfl rfl Z.out.1) rfl (by exact ld_good hle.out HM.out.1 HM.out.2 (ld_star (fr_disk p _) LS.out NV2.out.1 NV2.out.2.1 Z.out.2.2.1 Z.out.2.2.2 NV2.out.2.2))
      · have Z := Lib.hid (KZ.out _ V B2 DV NV xV (.int .i64 0) (.int .i64 0) (.slice none 0 0))
        have HN := Lib.hid hno
        dsimp only [List.length_nil] at hV k0 k1 k2 ⊢
        clear h3 hm hml hno g3 gV hmV DV NV xV
        go_wp2_with fail
        exact bodyPost_ret (mn_results3 rfl rfl rfl rfl Z.out.1) rfl (by exact ld_bad hle.out HN.out ⟨_, Z.out.2.2⟩)
    · have hle := Lib.hid (show loadE s = (e2, none) by rw [hLE, if_neg (by decide), if_neg (by decide), if_pos c3])
      have q3 : (e2 != 0) = true := by simpa using c3
      clear hLE c3 hz
      go_enter Tryz.func97, Tryz.ntmps97
      go_wp2_with fail
      rw [← HW.out]
      refine SZ.out.mono ?_; rintro e u1 ⟨rfl, B1, dd, nn⟩
      have D1 := Lib.hid (show DiskA p s.call u1 B1 ∧ Nx B W B1 u1 from ⟨dd, nn⟩)
      clear dd nn
      have RD1 := Lib.hid (RD.out u1 B1 D1.out.1)
      go_wp2_with fail
      refine RD1.out.mono ?_; rintro e u2 ⟨rfl, B2, dd, nn⟩
      have D2 := Lib.hid (show DiskA p s.call.call u2 B2 ∧ Nx B W B2 u2 from ⟨dd, D1.out.2.trans nn⟩)
      clear dd nn RD1
      have xu := KB.out _ u2 B2 D2.out.1 D2.out.2
      obtain ⟨c0, c1', c2', f0, f1, f2⟩ := ZC.out u2 xu
      have Z := Lib.hid (KZ.out _ u2 B2 D2.out.1 D2.out.2 xu (.int .i64 0) (.int .i64 0) (.slice none 0 0))
      clear xu
      go_wp2_with fail
      exact bodyPost_ret (mn_results3 rfl rfl rfl rfl Z.out.1) rfl (by exact ld_none hle.out ⟨_, Z.out.2.2⟩)
  · rw [if_neg c2]
    obtain ⟨ec, hec⟩ : ∃ r, lookC s nameL = r := ⟨_, rfl⟩
    obtain ⟨en, hen⟩ : ∃ r, lookN s nameL = r := ⟨_, rfl⟩
    have hb : lookB s nameL = false := by unfold lookB; rw [he1]; exact decide_eq_false c2
    have hle := Lib.hid (show loadE s = (ec, none) by
      rw [hLE, ← hec]
      unfold lookC
      rw [he1]
      by_cases c1 : e1 = 2
      · rw [if_pos c1, if_pos c1]
      · rw [if_neg c1, if_neg c1, if_pos c2])
    rw [hb, hec, hen] at LK
    have SZ := Lib.hid (show Calls Tryz.prog 89 #[.pointer (some ⟨p, 0, none⟩), .string ⟨#[109, 97, 110, 105, 102, 101, 115, 116]⟩] W (Does W B (DiskA p s.call) (.tuple #[.int .i64 en, .bool false, .int .i64 ec])) from LK)
    clear hW gW hzW yW hBl GD hd hn1 hn2 he1 hr2 hLT hu LK hLE c2 hb hec hen hz
    go_enter Tryz.func97, Tryz.ntmps97
    go_wp2_with fail
    rw [← HW.out]
    refine SZ.out.mono ?_; rintro e u1 ⟨rfl, B1, dd, nn⟩
    have D1 := Lib.hid (show DiskA p s.call u1 B1 ∧ Nx B W B1 u1 from ⟨dd, nn⟩)
    clear dd nn
    have xu := KB.out _ u1 B1 D1.out.1 D1.out.2
    obtain ⟨c0, c1', c2', f0, f1, f2⟩ := ZC.out u1 xu
    have Z := Lib.hid (KZ.out _ u1 B1 D1.out.1 D1.out.2 xu (.int .i64 0) (.int .i64 0) (.slice none 0 0))
    clear xu
    go_wp2_with fail
    exact bodyPost_ret (mn_results3 rfl rfl rfl rfl Z.out.1) rfl (by exact ld_none hle.out ⟨_, Z.out.2.2⟩)
end Go.Proofs.YtignfbdgpgidpaaGreatDoor
/- The example of layer 20's statements. (Cm: the program's Save and Load.) -/
namespace Go.Proofs.YtignfbdgpgidpaaGreatDoor
open Go.RowKit FsPlain CrcPlain OctPlain MnPlain CmPlain
set_option linter.unusedVariables false
set_option linter.unusedSimpArgs false
set_option maxRecDepth 20000
def Pd20 (p : Nat) (s : St) (M : List Asn) (w u : World) : Prop := Ps (DiskA p s :: M) w u
theorem pd_load {p : Nat} {s : St} {M : List Asn} {w u : World} (h : Pd20 p s M w u) (h1 : s.calls ≤ 1000000000) (hz : ∀ x, (loadE s).2 = some x → x.length ≤ 700) : Calls Tryz.prog 97 #[.pointer (some ⟨p, 0, none⟩)] u (LdTells s fun N w' => Pd20 p (loadT s) (M ++ N) w w') :=
  ps_load h (fr_disk p (loadT s)) fun B1 hp => cload20_c p s u B1 hp h1 (by have hok : s.ok := hp.1; have := hok.u; have := hok.r1; omega) hz
theorem pd_new (room : Int) (h0 : 0 ≤ room) (h1 : room ≤ 16777216) (w : World) : Calls Tryz.prog 16 #[.int .i64 room] w fun e w' => ∃ p, e = .returned (.tuple #[.pointer (some ⟨p, 0, none⟩), .int .i64 0]) ∧ Pd20 p (fresh room) [] w w' :=
  (new_c room h0 h1 w).mono fun e w' ⟨p, B, he, hd, hg, hb⟩ => ⟨p, he, ⟨fr_disk _ _, trivial⟩, B, ⟨B, fun _ => False, hd, (fun _ h => h), (fun _ _ h => h), fun b => (or_false _).symm ▸ Iff.rfl⟩, ⟨Only.ofGr hg, fun b h => .inr (hb b h)⟩⟩
end Go.Proofs.YtignfbdgpgidpaaGreatDoor
/- The states of a law of commit, round by round. -/
namespace Go.Proofs.YtignfbdgpgidpaaGreatDoor
open Go.RowKit FsPlain CrcPlain OctPlain MnPlain CmPlain
set_option linter.unusedVariables false
set_option linter.unusedSimpArgs false
set_option maxRecDepth 20000
namespace CmPlain
end CmPlain
end Go.Proofs.YtignfbdgpgidpaaGreatDoor
/- The program's Save and Load, as calls on one of two disks. -/
namespace Go.Proofs.YtignfbdgpgidpaaGreatDoor
open Go.RowKit FsPlain CrcPlain OctPlain MnPlain CmPlain
set_option linter.unusedVariables false
set_option linter.unusedSimpArgs false
set_option maxRecDepth 20000
theorem tw_save_p {p d : Nat} {s t : St} {M : List Asn} {w u : World} (h : Pl20 p d s t M w u) {m : Mn} {a : Option Addr} {n c : Nat} (h1 : s.calls ≤ 1000000000) (hm : LiesFl w (.slice a n c) m.files) (hl : m.files.length ≤ maxLen) (hK : ∀ f ∈ m.files, flK f) : Calls Tryz.prog 22 #[.pointer (some ⟨p, 0, none⟩), .agg #[.int .i64 m.stage, .int .i64 m.pass, .slice a n c]] u fun e w' => e = .returned (.int .i64 (saveR s m).2) ∧ Pl20 p d (saveR s m).1 t M w w' :=
  on_left (X := fun e _ => e = .returned (.int .i64 (saveR s m).2)) h fun B1 hp => csave20_c p s m u B1 hp h1 (hm.gr h.gr) hl hK
end Go.Proofs.YtignfbdgpgidpaaGreatDoor
/- For the laws of layer 22: few files; both disks with the same files. -/
namespace Go.Proofs.YtignfbdgpgidpaaGreatDoor
open Go.RowKit FsPlain CrcPlain OctPlain MnPlain CmPlain ScPlain
set_option linter.unusedVariables false
set_option linter.unusedSimpArgs false
set_option maxRecDepth 20000
namespace ScPlain
def RtS (s : St) : Prop := ∀ f ∈ s.fs, rightB f.name = true
theorem rt_create {s : St} {n : List UInt8} (h : RtS s) : RtS (createX s n).1 := by
  unfold createX
  split
  · next hn =>
    unfold createR
    split
    · exact h
    · split
      · exact h
      · split
        · exact h
        · intro f hf
          have hf : f ∈ insF ⟨n, [], 0⟩ s.fs := hf
          rcases List.mem_cons.1 ((insF_perm _ _).mem_iff.1 hf) with rfl | hf
          · exact hn
          · exact h f hf
  · exact h
theorem rt_append {s : St} {n t : List UInt8} (h : RtS s) : RtS (appendX s n t).1 := by
  unfold appendX
  split
  · unfold appendR
    split
    · exact h
    · split
      · exact h
      · split
        · exact h
        · intro f hf
          obtain ⟨g, hg, rfl⟩ := List.mem_map.1 (show f ∈ s.fs.map _ from hf)
          have := h g hg
          split
          · exact this
          · exact this
  · exact h
theorem calls_createX (s : St) (n : List UInt8) : (createX s n).1.calls ≤ s.calls + 1 := by
  unfold createX
  split
  · rw [calls_create]; omega
  · show s.calls ≤ _; omega
theorem calls_appendX (s : St) (n t : List UInt8) : (appendX s n t).1.calls ≤ s.calls + 1 := by
  unfold appendX
  split
  · rw [calls_append]; omega
  · show s.calls ≤ _; omega
def layX (s : St) (x : Fy) : St := (appendX (createX s x.name.data.toList).1 x.name.data.toList x.data.data.toList).1
def bothL (s : St) (l : List Fy) : St := l.foldl layX s
def oneFy (x : Fy) : Bool := decide (x.data.size ≤ 300) && decide (x.name.size ≤ 40)
def fewFy (l : List Fy) : Bool := (l.take 12).all oneFy && decide (l.length ≤ 12)
theorem few_fy {l : List Fy} (h : fewFy l = true) : l.length ≤ 12 ∧ ∀ x ∈ l, x.data.size ≤ 300 ∧ x.name.size ≤ 40 := by
  unfold fewFy at h
  rw [Bool.and_eq_true, decide_eq_true_iff, List.all_eq_true] at h
  refine ⟨h.2, fun x hx => ?_⟩
  have := h.1 x (by rw [List.take_of_length_le h.2]; exact hx)
  unfold oneFy at this
  rw [Bool.and_eq_true, decide_eq_true_iff, decide_eq_true_iff] at this
  exact this
theorem lay_rt {s : St} (x : Fy) (h : RtS s) : RtS (layX s x) := rt_append (rt_create h)
theorem lay_calls (s : St) (x : Fy) : (layX s x).calls ≤ s.calls + 2 := by
  have h1 := calls_createX s x.name.data.toList
  have h2 := calls_appendX (createX s x.name.data.toList).1 x.name.data.toList x.data.data.toList
  unfold layX
  omega
end ScPlain
def FyFew (l : List Fy) (w : World) (v : Value) (wr : World) : Prop := ∃ i : Nat, i ≤ l.length ∧ i ≤ 12 ∧ v = .int .i64 (i : Int) ∧ (∀ j (hj : j < l.length), j < i → oneFy l[j] = true) ∧ Gr w wr
theorem no_one {l : List Fy} {i : Nat} (h : i < l.length) (h12 : i < 12) (hf : oneFy l[i] = false) : fewFy l = false := by
  unfold fewFy
  rw [Bool.and_eq_false_iff, List.all_eq_false]
  left
  exact ⟨l[i], by rw [List.mem_iff_getElem]; exact ⟨i, by rw [List.length_take]; omega, by rw [List.getElem_take]⟩, by rw [hf]; simp⟩
set_option maxHeartbeats 2000000 in
theorem few22_c {a : Option Addr} {n c : Nat} {l : List Fy} (w : World) (h : LiesFy w (.slice a n c) l) (hl : l.length ≤ maxLen) :
    Calls Tryz.prog 6 #[.slice a n c, .agg #[.int .i64 0, .int .i64 0, .slice none 0 0]] w fun e w' => e = .returned (.bool (fewFy l)) ∧ Gr w w' := by
  have hn : n = l.length := by
    obtain ⟨a', c', e, hc, _⟩ := h
    simp only [Value.slice.injEq] at e
    exact e.2.1
  obtain ⟨r, hr⟩ : ∃ r, fewFy l = r := ⟨_, rfl⟩
  rw [hr]
  unfold maxLen at hl
  have g0 := gr19 w (.cells #[.int .i64 0, .int .i64 0, .slice none 0 0] 27)
  have yW : (w.alloc (.cells #[.int .i64 0, .int .i64 0, .slice none 0 0] 27)).heap[w.heap.size]? = some (.cells #[.int .i64 0, .int .i64 0, .slice none 0 0] 27 (0, 0)) := heap_alloc_new w _
  have KM := Lib.hid (fun u (g : Gr (w.alloc (.cells #[.int .i64 0, .int .i64 0, .slice none 0 0] 27)) u) => mn_cells ((Below.block g _ (by simp)).trans yW))
  have RF := Lib.hid (fun u => by
    have h := rfew_c 0 0 none 0 0 [] u (liesFl_nil u) (by unfold maxLen; simp)
    rw [show fewB [] = true from rfl] at h
    exact h)
  have H := Lib.hid (h.gr g0)
  have G0 := Lib.hid g0
  have HR := Lib.hid hr
  clear h hr yW g0
  subst hn
  go_enter Tryz.func6, Tryz.ntmps6
  go_wp2_with fail
  obtain ⟨W, hW⟩ : ∃ W, w.alloc (.cells #[.int .i64 0, .int .i64 0, .slice none 0 0] 27) = W := ⟨_, rfl⟩
  rw [hW] at KM H G0
  rw [hW]
  clear hW
  go_loopw [5] (fun v wr => FyFew l W v wr) (fun v _ => l.length - (intOf v).toNat)
  case atStart => exact ⟨0, Nat.zero_le _, by decide, rfl, fun j _ hj => by omega, Gr.refl _⟩
  case round =>
    obtain ⟨i, hi1, hi2, rfl, hall, g1⟩ := hrel
    have HA := Lib.hid hall
    have G1 := Lib.hid g1
    clear hall
    by_cases hlt : i < l.length ∧ i < 12
    · obtain ⟨_, hc, b, o, rfl, hb, k0, k1⟩ := fy_get (H.out.gr g1) hlt.1
      obtain ⟨x, hx⟩ : ∃ x, l[i] = x := ⟨_, rfl⟩
      rw [hx] at k0 k1
      have q1 : (i : Int) < (l.length : Int) := by omega
      have q2 : (i : Int) < 12 := by omega
      have hno := no_one hlt.1 hlt.2
      rw [hx, HR.out] at hno
      by_cases hd : x.data.size ≤ 300
      · by_cases hnm : x.name.size ≤ 40
        · have q3 : ¬ (300 : Int) < (x.data.size : Int) := by omega
          have q4 : ¬ (40 : Int) < (x.name.size : Int) := by omega
          have NX := Lib.hid (show FyFew l W (.int .i64 ((i : Int) + 1)) wr from ⟨i + 1, by omega, by omega, by rw [Int.natCast_add]; rfl, fun j hj hji => by
            by_cases e : j = i
            · subst e; rw [hx]; unfold oneFy; rw [decide_eq_true hd, decide_eq_true hnm]; rfl
            · exact HA.out j hj (by omega), g1⟩)
          clear hno hx hd hnm hlt g1
          go_wp2_with fail
          go_roundw
          case rel => exact NX.out
          case measure => simp [intOf]; omega
        · have q3 : ¬ (300 : Int) < (x.data.size : Int) := by omega
          have q4 : (40 : Int) < (x.name.size : Int) := by omega
          obtain rfl : r = false := hno (by unfold oneFy; rw [decide_eq_false hnm, Bool.and_false])
          clear hno hx hd hnm hlt g1
          go_wp2_with fail
          go_ret
          exact ⟨rfl, G0.out.trans G1.out⟩
      · have q3 : (300 : Int) < (x.data.size : Int) := by omega
        obtain rfl : r = false := hno (by unfold oneFy; rw [decide_eq_false hd]; rfl)
        clear hno hx hd hlt g1
        go_wp2_with fail
        go_ret
        exact ⟨rfl, G0.out.trans G1.out⟩
    · have er : r = decide ((l.length : Int) ≤ 12) := by
        rw [← HR.out]
        unfold fewFy
        have e1 : (l.take 12).all oneFy = true := by
          rw [List.all_eq_true]
          intro f hf
          obtain ⟨j, hj, rfl⟩ := List.mem_iff_getElem.1 hf
          rw [List.length_take] at hj
          rw [List.getElem_take]
          exact HA.out j (by omega) (by omega)
        rw [e1, Bool.true_and]
        exact decide_eq_decide.2 (by omega)
      by_cases h12 : (l.length : Int) ≤ 12
      · rw [decide_eq_true h12] at er
        subst er
        have q1 : ¬ (i : Int) < (l.length : Int) := by omega
        obtain ⟨⟨m0, m1, m2⟩, _⟩ := KM.out wr g1
        clear hlt g1
        go_wp2_with fail
        refine (RF.out wr).mono ?_; rintro e u ⟨rfl, g2⟩
        have G2 := Lib.hid g2
        clear g2
        go_wp2_with fail
        go_ret
        exact ⟨rfl, (G0.out.trans G1.out).trans G2.out⟩
      · rw [decide_eq_false h12] at er
        subst er
        have q2 : ¬ (i : Int) < 12 := by omega
        by_cases q1 : (i : Int) < (l.length : Int)
        · clear hlt g1
          go_wp2_with fail
          go_ret
          exact ⟨rfl, G0.out.trans G1.out⟩
        · clear hlt g1
          go_wp2_with fail
          go_ret
          exact ⟨rfl, G0.out.trans G1.out⟩
end Go.Proofs.YtignfbdgpgidpaaGreatDoor
