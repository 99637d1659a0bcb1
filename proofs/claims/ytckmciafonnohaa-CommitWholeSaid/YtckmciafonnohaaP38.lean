/- In one text: CmL, CmFact. -/
import Derived.Test.YtckmciafonnohaaP36
import Derived.Test.YtckmciafonnohaaP37
import Derived.Test.YtckmciafonnohaaP11
/- The program's layer 20: Load. -/
namespace Go.Proofs.Ytckmciafonnohaa
open Go.RowKit FsPlain CrcPlain OctPlain MnPlain CmPlain
set_option linter.unusedVariables false
set_option linter.unusedSimpArgs false
set_option maxRecDepth 20000
set_option maxHeartbeats 8000000 in
theorem cload20_c (p : Nat) (s : St) (w : World) (B : Nat → Prop) (hd : DiskA p s w B) (h1 : s.calls ≤ 1000000000) (hu : used s.fs ≤ 16777216) (hz : ∀ t, (loadE s).2 = some t → t.length ≤ 700) :
    Calls Try.prog 10 #[.pointer (some ⟨p, 0, none⟩)] w (LdGot (DiskA p (loadT s)) s B w) := by
  obtain ⟨W, hW⟩ : ∃ W, W = w.alloc (.cells #[.int .i64 0, .int .i64 0, .slice none 0 0] 31) := ⟨_, rfl⟩
  have gW : Gr w W := by rw [hW]; exact gr19 _ _
  have hzW : W.heap.size = w.heap.size + 1 := by rw [hW]; simp
  have yW : W.heap[w.heap.size]? = some (.cells #[.int .i64 0, .int .i64 0, .slice none 0 0] 31 (0, 0)) := by rw [hW]; exact heap_alloc_new w _
  have hBl : ∀ b, B b → b < w.heap.size := (fr_disk p s).lo hd
  have GD : DiskA p s W B := star_gr (fr_disk p s) hd gW
  have KB := Lib.hid (fun (t : St) (u : World) (B1 : Nat → Prop) (h : DiskA p t u B1) (n : Nx B W B1 u) => (n.only.block _ (by omega) (fun e => by have := hBl _ e; omega)).trans yW)
  have KZ := Lib.hid (fun (t : St) (u : World) (B1 : Nat → Prop) (h : DiskA p t u B1) (n : Nx B W B1 u) (x : u.heap[w.heap.size]? = some (.cells #[.int .i64 0, .int .i64 0, .slice none 0 0] 31 (0, 0))) (a b c : Value) => by
    obtain ⟨q1, q2⟩ := mn_store2 x rfl a b c
    have hn : ∀ k, B1 k → ¬ (k = w.heap.size) := fun k hk e => by
      rcases n.new k hk with h1 | h1
      · have := hBl k h1; omega
      · omega
    exact (⟨q1, q2, (fr_disk p t).fr h q2 hn, (n.only.trans (Only.refl _ _) |> fun o => (⟨(Only.ofGr gW).trans o |>.andThen q2 fun k e => .inr (by omega), fun k hk => (n.new k hk).imp id fun h2 => by omega⟩ : Nx B w B1 _))⟩ : (((u.setCell ⟨w.heap.size, 0, none⟩ a).setCell ⟨w.heap.size, 1, none⟩ b).setCell ⟨w.heap.size, 2, none⟩ c).heap[w.heap.size]? = some (.cells #[a, b, c] 31 (0, 0)) ∧ Only (fun i => i = w.heap.size) u (((u.setCell ⟨w.heap.size, 0, none⟩ a).setCell ⟨w.heap.size, 1, none⟩ b).setCell ⟨w.heap.size, 2, none⟩ c) ∧ DiskA p t (((u.setCell ⟨w.heap.size, 0, none⟩ a).setCell ⟨w.heap.size, 1, none⟩ b).setCell ⟨w.heap.size, 2, none⟩ c) B1 ∧ Nx B w B1 (((u.setCell ⟨w.heap.size, 0, none⟩ a).setCell ⟨w.heap.size, 1, none⟩ b).setCell ⟨w.heap.size, 2, none⟩ c)))
  have ZC := Lib.hid (fun (u : World) (x : u.heap[w.heap.size]? = some (.cells #[.int .i64 0, .int .i64 0, .slice none 0 0] 31 (0, 0))) => (⟨by rw [cells_at x]; rfl, by rw [cells_at x]; rfl, by rw [cells_at x]; rfl, cells_free x 0, cells_free x 1, cells_free x 2⟩ : u.cell? ⟨w.heap.size, 0, none⟩ = some (.int .i64 0) ∧ u.cell? ⟨w.heap.size, 1, none⟩ = some (.int .i64 0) ∧ u.cell? ⟨w.heap.size, 2, none⟩ = some (.slice none 0 0) ∧ u.frozen? ⟨w.heap.size, 0, none⟩ = false ∧ u.frozen? ⟨w.heap.size, 1, none⟩ = false ∧ u.frozen? ⟨w.heap.size, 2, none⟩ = false))
  obtain ⟨n1, hn1, hn2⟩ := size_nat s nameL
  obtain ⟨e1, he1⟩ : ∃ r, (sizeR s nameL).2 = r := ⟨_, rfl⟩
  have LK := look_c p s nameS (by decide) name_right (by omega) W B GD
  rw [show nameS.data.toList = nameL from rfl] at LK
  obtain ⟨⟨t, e2⟩, hr2⟩ : ∃ q, readR s.call nameL 0 n1 = q := ⟨_, rfl⟩
  have RD := Lib.hid (fun u B1 (hh : DiskA p s.call u B1) => (show Calls Try.prog 20 #[.pointer (some ⟨p, 0, none⟩), .string ⟨#[109, 97, 110, 105, 102, 101, 115, 116]⟩, .int .i64 0, .int .i64 (n1 : Int)] u (Does u B1 (DiskA p s.call.call) (.tuple #[.string (bs t), .int .i64 e2])) from by
    have := d_read p s.call nameS 0 n1 (by decide) name_right (by show s.calls + 1 ≤ _; omega) (by omega) (by omega) u B1 hh
    rw [show readR s.call nameS.data.toList 0 n1 = (t, e2) from hr2] at this
    exact this))
  have hLE : loadE s = if e1 = 2 then (0, none) else if e1 ≠ 0 then (e1, none) else if e2 ≠ 0 then (e2, none) else (0, some t) := by
    unfold loadE
    rw [he1, hn1, Int.toNat_natCast, hr2]
  have hLT : loadT s = if e1 = 0 then s.call.call else s.call := by unfold loadT; rw [he1]
  rw [hLT]
  have HW := Lib.hid hW
  have HS := Lib.hid (show w.heap.size ≤ W.heap.size from gW.size)
  by_cases c2 : e1 = 0
  · subst c2
    rw [if_pos rfl]
    have lk : lookN s nameL = (n1 : Int) ∧ lookB s nameL = true ∧ lookC s nameL = 0 := by
      unfold lookN lookB lookC
      rw [he1, hn1]
      exact ⟨rfl, rfl, rfl⟩
    rw [lk.1, lk.2.1, lk.2.2] at LK
    have SZ := Lib.hid (show Calls Try.prog 19 #[.pointer (some ⟨p, 0, none⟩), .string ⟨#[109, 97, 110, 105, 102, 101, 115, 116]⟩] W (Does W B (DiskA p s.call) (.tuple #[.int .i64 (n1 : Int), .bool true, .int .i64 0])) from LK)
    clear hW gW hzW yW hBl GD hd hn1 hn2 he1 hr2 hLT hu LK lk
    by_cases c3 : e2 = 0
    · subst c3
      have hle := Lib.hid (show loadE s = (0, some t) by rw [hLE, if_neg (by decide), if_neg (by decide), if_neg (by decide)])
      have ht := hz t (by rw [hle.out])
      have GT := Lib.hid (fun u => get19_c (bs t) (by rw [bs_size]; omega) u)
      clear hLE ht hz
      go_enter Try.func10, Try.ntmps10
      go_wp2_with fail
      rw [← HW.out]
      refine SZ.out.mono ?_; rintro e u1 ⟨rfl, B1, dd, nn⟩
      have D1 := Lib.hid (show DiskA p s.call u1 B1 ∧ Nx B W B1 u1 from ⟨dd, nn⟩)
      clear dd nn
      have RD1 := Lib.hid (RD.out u1 B1 D1.out.1)
      go_wp2_with fail
      refine RD1.out.mono ?_; rintro e u2 ⟨rfl, B2, dd, nn⟩
      have D2 := Lib.hid (show DiskA p s.call.call u2 B2 ∧ Nx B W B2 u2 from ⟨dd, D1.out.2.trans nn⟩)
      clear dd nn RD1
      go_wp2_with fail
      refine (GT.out u2).mono ?_; intro e u3 h3
      obtain ⟨m, ma, mc, b, rfl, hm, hml, hgt, g3, hnv⟩ := gt_cases2 h3
      have NV2 := Lib.hid (show NewFl u2 (.slice ma m.files.length mc) ∧ (∀ b, B2 b → b < u2.heap.size) ∧ w.heap.size ≤ u2.heap.size from ⟨hnv, fun b hb => (fr_disk p _).lo D2.out.1 b hb, by have := D2.out.2.only.size; have := HS.out; omega⟩)
      clear hnv
      obtain ⟨V, hV⟩ : ∃ V, u3.alloc (.cells #[.int .i64 m.stage, .int .i64 m.pass, .slice ma m.files.length mc] 31) = V := ⟨_, rfl⟩
      have gV : Gr u3 V := by rw [← hV]; exact gr19 _ _
      have bV := mnB_at (show V.heap[u3.heap.size]? = some (.cells #[.int .i64 m.stage, .int .i64 m.pass, .slice ma m.files.length mc] 31 (0, 0)) by rw [← hV]; exact heap_alloc_new u3 _)
      obtain ⟨k0, k1, k2⟩ := bV
      have hmV := hm.gr gV
      have DV : DiskA p s.call.call V B2 := star_gr (fr_disk p _) D2.out.1 (g3.trans gV)
      have NV : Nx B W B2 V := D2.out.2.trans (Nx.gr (g3.trans gV))
      have xV := KB.out _ V B2 DV NV
      obtain ⟨c0, c1', c2', f0, f1, f2⟩ := ZC.out V xV
      rcases hgt with ⟨rfl, hmi⟩ | ⟨rfl, rfl, hno⟩
      · have z := KZ.out _ V B2 DV NV xV (.int .i64 m.stage) (.int .i64 m.pass) (.slice ma m.files.length mc)
        have Z := Lib.hid z
        have LS := Lib.hid (hmV.stay2 xV z.2.1)
        have HM := Lib.hid (And.intro hmi hml)
        clear h3 hm hml hmi g3 gV hmV DV NV xV z
        go_wp2_with fail
        exact bodyPost_ret (mn_results3 rfl rfl rfl rfl Z.out.1) rfl (by exact ld_good hle.out HM.out.1 HM.out.2 (ld_star (fr_disk p _) LS.out NV2.out.1 NV2.out.2.1 Z.out.2.2.1 Z.out.2.2.2 NV2.out.2.2))
      · have Z := Lib.hid (KZ.out _ V B2 DV NV xV (.int .i64 0) (.int .i64 0) (.slice none 0 0))
        have HN := Lib.hid hno
        dsimp only [List.length_nil] at hV k0 k1 k2 ⊢
        clear h3 hm hml hno g3 gV hmV DV NV xV
        go_wp2_with fail
        exact bodyPost_ret (mn_results3 rfl rfl rfl rfl Z.out.1) rfl (by exact ld_bad hle.out HN.out ⟨_, Z.out.2.2⟩)
    · have hle := Lib.hid (show loadE s = (e2, none) by rw [hLE, if_neg (by decide), if_neg (by decide), if_pos c3])
      have q3 : (e2 != 0) = true := by simpa using c3
      clear hLE c3 hz
      go_enter Try.func10, Try.ntmps10
      go_wp2_with fail
      rw [← HW.out]
      refine SZ.out.mono ?_; rintro e u1 ⟨rfl, B1, dd, nn⟩
      have D1 := Lib.hid (show DiskA p s.call u1 B1 ∧ Nx B W B1 u1 from ⟨dd, nn⟩)
      clear dd nn
      have RD1 := Lib.hid (RD.out u1 B1 D1.out.1)
      go_wp2_with fail
      refine RD1.out.mono ?_; rintro e u2 ⟨rfl, B2, dd, nn⟩
      have D2 := Lib.hid (show DiskA p s.call.call u2 B2 ∧ Nx B W B2 u2 from ⟨dd, D1.out.2.trans nn⟩)
      clear dd nn RD1
      have xu := KB.out _ u2 B2 D2.out.1 D2.out.2
      obtain ⟨c0, c1', c2', f0, f1, f2⟩ := ZC.out u2 xu
      have Z := Lib.hid (KZ.out _ u2 B2 D2.out.1 D2.out.2 xu (.int .i64 0) (.int .i64 0) (.slice none 0 0))
      clear xu
      go_wp2_with fail
      exact bodyPost_ret (mn_results3 rfl rfl rfl rfl Z.out.1) rfl (by exact ld_none hle.out ⟨_, Z.out.2.2⟩)
  · rw [if_neg c2]
    obtain ⟨ec, hec⟩ : ∃ r, lookC s nameL = r := ⟨_, rfl⟩
    obtain ⟨en, hen⟩ : ∃ r, lookN s nameL = r := ⟨_, rfl⟩
    have hb : lookB s nameL = false := by unfold lookB; rw [he1]; exact decide_eq_false c2
    have hle := Lib.hid (show loadE s = (ec, none) by
      rw [hLE, ← hec]
      unfold lookC
      rw [he1]
      by_cases c1 : e1 = 2
      · rw [if_pos c1, if_pos c1]
      · rw [if_neg c1, if_neg c1, if_pos c2])
    rw [hb, hec, hen] at LK
    have SZ := Lib.hid (show Calls Try.prog 19 #[.pointer (some ⟨p, 0, none⟩), .string ⟨#[109, 97, 110, 105, 102, 101, 115, 116]⟩] W (Does W B (DiskA p s.call) (.tuple #[.int .i64 en, .bool false, .int .i64 ec])) from LK)
    clear hW gW hzW yW hBl GD hd hn1 hn2 he1 hr2 hLT hu LK hLE c2 hb hec hen hz
    go_enter Try.func10, Try.ntmps10
    go_wp2_with fail
    rw [← HW.out]
    refine SZ.out.mono ?_; rintro e u1 ⟨rfl, B1, dd, nn⟩
    have D1 := Lib.hid (show DiskA p s.call u1 B1 ∧ Nx B W B1 u1 from ⟨dd, nn⟩)
    clear dd nn
    have xu := KB.out _ u1 B1 D1.out.1 D1.out.2
    obtain ⟨c0, c1', c2', f0, f1, f2⟩ := ZC.out u1 xu
    have Z := Lib.hid (KZ.out _ u1 B1 D1.out.1 D1.out.2 xu (.int .i64 0) (.int .i64 0) (.slice none 0 0))
    clear xu
    go_wp2_with fail
    exact bodyPost_ret (mn_results3 rfl rfl rfl rfl Z.out.1) rfl (by exact ld_none hle.out ⟨_, Z.out.2.2⟩)
end Go.Proofs.Ytckmciafonnohaa
/- Plain facts of commit: the files that it writes stay small. -/
namespace Go.Proofs.Ytckmciafonnohaa
open Go.RowKit FsPlain
set_option linter.unusedVariables false
set_option linter.unusedSimpArgs false
namespace CmPlain
/-- The file of that name, if there is one, has at most 700 bytes. -/
def Sm (s : St) (n : List UInt8) : Prop := ∀ f, s.get n = some f → f.data.length ≤ 700
def Smalls (s : St) : Prop := Sm s nameL ∧ Sm s wayL
theorem Sm.same {s t : St} {n : List UInt8} (h : Sm s n) (e : t.get n = s.get n) : Sm t n := fun f hf => h f (by rw [← e]; exact hf)
theorem sm_none {s : St} {n : List UInt8} (e : s.get n = none) : Sm s n := fun f hf => by rw [e] at hf; cases hf
theorem sm_some {s : St} {n : List UInt8} {g : F} (e : s.get n = some g) (h : g.data.length ≤ 700) : Sm s n := fun f hf => by rw [e] at hf; cases hf; exact h
theorem sm_remove {s : St} {n : List UInt8} (h : Sm s n) : Sm (removeR s n).1 n := by
  unfold removeR
  split
  · exact h.same rfl
  · split
    · exact h.same rfl
    · exact sm_none (drop_get s.call n)
theorem sm_create {s : St} {n : List UInt8} (h : Sm s n) : Sm (createR s n).1 n := by
  by_cases e : (createR s n).2 = 0
  · exact sm_some (create_eq e) (by show ([] : List UInt8).length ≤ 700; simp)
  · refine h.same ?_
    unfold createR at e ⊢
    split
    · rfl
    · next k =>
      rw [if_neg k] at e
      split
      · rfl
      · next hg =>
        rw [hg] at e
        dsimp only at e
        split
        · rfl
        · next l => rw [if_neg l] at e; exact absurd rfl e
theorem append_no {s : St} {n t : List UInt8} (h : (appendR s n t).2 ≠ 0) (k : List UInt8) : (appendR s n t).1.get k = s.get k := by
  unfold appendR at h ⊢
  split
  · rfl
  · next q =>
    rw [if_neg q] at h
    split
    · rfl
    · next f hf =>
      rw [hf] at h
      dsimp only at h
      split
      · rfl
      · next l => rw [if_neg l] at h; exact absurd rfl h
theorem sync_data {s : St} {n : List UInt8} (h : Sm s n) : Sm (syncR s n).1 n := by
  cases hf : s.get n with
  | none =>
    refine sm_none ?_
    unfold syncR
    rw [hf]
    split <;> exact hf
  | some f =>
    by_cases e : (syncR s n).2 = 0
    · exact sm_some (sync_eq hf e) (h f hf)
    · refine h.same ?_
      unfold syncR at e ⊢
      rw [hf] at e ⊢
      split
      · exact hf
      · next q => rw [if_neg q] at e; exact absurd rfl e
theorem smalls_then {a : St × Int} {f : St → St × Int} (h : Smalls a.1) (hf : ∀ t, Smalls t → Smalls (f t).1) : Smalls (thenR a f).1 := by
  unfold thenR
  split
  · exact hf _ h
  · exact h
theorem smalls_gone {s : St} (h : Smalls s) : Smalls (goneR s).1 := by
  refine ⟨h.1.same (gone_ne s), ?_⟩
  unfold goneR
  split
  · exact sm_remove (s := s.call) (h.2.same rfl)
  · split <;> exact h.2.same rfl
theorem smalls_rename {s : St} (h : Smalls s) : Smalls (renameR s wayL nameL).1 := by
  by_cases e : (renameR s wayL nameL).2 = 0
  · cases hf : s.get wayL with
    | none =>
      unfold renameR at e ⊢
      rw [hf] at e ⊢
      split
      · exact ⟨h.1.same rfl, h.2.same rfl⟩
      · exact ⟨h.1.same rfl, h.2.same rfl⟩
    | some f =>
      refine ⟨sm_some (rename_eq hf e) (h.2 f hf), ?_⟩
      refine sm_none ?_
      unfold renameR at e ⊢
      rw [hf] at e ⊢
      split
      · next q => rw [if_pos q] at e; cases e
      · exact move_get_old s.call f (fun q => way_ne q.symm)
  · exact ⟨h.1.same (rename_ne e), h.2.same (rename_ne e)⟩
theorem smalls_save {s : St} {x : List UInt8} (hx : x.length ≤ 700) (h : Smalls s) : Smalls (saveS s x).1 := by
  unfold saveS
  have h1 := smalls_gone h
  obtain ⟨a1, q1⟩ : ∃ a, goneR s = a := ⟨_, rfl⟩
  rw [q1] at h1 ⊢
  have h2 : Smalls (thenR a1 fun t => createR t wayL).1 := smalls_then h1 fun t ht => ⟨ht.1.same (create_ne way_ne), sm_create ht.2⟩
  have h3 : Smalls (thenR (thenR a1 fun t => createR t wayL) fun t => appendR t wayL x).1 := by
    by_cases e1 : a1.2 = 0
    · rw [thenR_yes e1] at h2 ⊢
      by_cases e2 : (createR a1.1 wayL).2 = 0
      · rw [thenR_yes e2]
        refine ⟨h2.1.same (append_ne way_ne), ?_⟩
        by_cases e3 : (appendR (createR a1.1 wayL).1 wayL x).2 = 0
        · exact sm_some (append_eq (create_eq e2) e3) (by show ([] ++ x).length ≤ 700; simpa using hx)
        · exact h2.2.same (append_no e3 _)
      · rw [thenR_no e2]; exact h2
    · rw [thenR_no e1] at h2 ⊢
      rw [thenR_no e1]
      exact h2
  have h4 := smalls_then (f := fun t => syncR t wayL) h3 fun t ht => ⟨ht.1.same (sync_ne way_ne), sync_data ht.2⟩
  exact smalls_then (f := fun t => renameR t wayL nameL) h4 fun t ht => smalls_rename ht
theorem sm_fall {s : St} {n m : List UInt8} {k : Int} (h : Sm s n) : Sm (s.upd m fun f => fall f k) n := by
  by_cases e : n = m
  · subst e
    cases hf : s.get n with
    | none =>
      refine sm_none ?_
      have hl : ∀ l : List F, l.find? (fun f => f.name == n) = none → (l.map fun f => if f.name = n then fall f k else f).find? (fun f => f.name == n) = none := by
        intro l hl
        rw [List.find?_eq_none] at hl ⊢
        intro y hy
        obtain ⟨z, hz, rfl⟩ := List.mem_map.1 hy
        have hn := hl z hz
        split
        · next q => exact absurd (by simpa using q) hn
        · exact hn
      exact hl _ hf
    | some f =>
      refine sm_some (upd_eq (g := fun f => fall f k) hf fun f => rfl) ?_
      have := h f hf
      show (f.data.take _).length ≤ 700
      rw [List.length_take]
      omega
  · exact h.same (upd_ne (g := fun f => fall f k) e fun f => rfl)
theorem smalls_rise {s : St} (ks : List Int) (h : Smalls s) : Smalls (riseR s ks) := by
  have : ∀ j, Smalls (riseN s ks j) := by
    intro j
    induction j with
    | zero => exact h
    | succ j ih => exact ⟨sm_fall ih.1, sm_fall ih.2⟩
  exact ⟨(this _).1.same rfl, (this _).2.same rfl⟩
theorem smalls_load {s : St} (h : Smalls s) : Smalls (loadT s) := by
  unfold loadT
  split <;> exact ⟨h.1.same rfl, h.2.same rfl⟩
theorem load_small {s : St} (h : Smalls s) : ∀ t, (loadE s).2 = some t → t.length ≤ 700 := by
  intro t ht
  unfold loadE at ht
  split at ht
  · cases ht
  · split at ht
    · cases ht
    · split at ht
      · cases ht
      · next q =>
        have e : (readR s.call nameL 0 (sizeR s nameL).1.toNat).1 = t := Option.some.inj ht
        rw [← e]
        unfold readR
        split
        · simp
        · split
          · simp
          · next f hf =>
            split
            · simp
            · have := h.1 f hf
              rw [List.length_take, List.drop_zero]
              omega
end CmPlain
end Go.Proofs.Ytckmciafonnohaa
