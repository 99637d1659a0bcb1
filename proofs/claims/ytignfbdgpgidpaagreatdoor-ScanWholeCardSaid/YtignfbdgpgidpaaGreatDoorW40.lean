/- In one text: CmL, CmAwake, Dig, StPlain, Itoa. -/
import Derived.Test.YtignfbdgpgidpaaGreatDoorW39
import Derived.Test.YtignfbdgpgidpaaGreatDoorW29
import Derived.Test.YtignfbdgpgidpaaGreatDoorW00
import Derived.Lib.ItoaNum
import Derived.Test.YtignfbdgpgidpaaGreatDoorW23
import Derived.Shelf.Strconv.Itoa0
import Derived.Shelf.Strconv.Itoa1
import Derived.Shelf.LaysM
import Derived.Shelf.Strconv.Itoa2
import Derived.Shelf.Strconv.Itoa3
import Derived.Lib.LaidTab
import Derived.LaidSub
import Derived.Stop.LaidErr
import Derived.Test.YtignfbdgpgidpaaGreatDoorW03
/- The program's layer 20: Load. -/
namespace Go.Proofs.YtignfbdgpgidpaaGreatDoor
open Go.RowKit FsPlain CrcPlain OctPlain MnPlain CmPlain
set_option linter.unusedVariables false
set_option linter.unusedSimpArgs false
set_option maxRecDepth 20000
set_option maxHeartbeats 8000000 in
theorem cload20_c (p : Nat) (s : St) (w : World) (B : Nat → Prop) (hd : DiskA p s w B) (h1 : s.calls ≤ 1000000000) (hu : used s.fs ≤ 16777216) (hz : ∀ t, (loadE s).2 = some t → t.length ≤ 700) :
    Calls Tryz.prog 97 #[.pointer (some ⟨p, 0, none⟩)] w (LdGot (DiskA p (loadT s)) s B w) := by
  obtain ⟨W, hW⟩ : ∃ W, W = w.alloc (.cells #[.int .i64 0, .int .i64 0, .slice none 0 0] 27) := ⟨_, rfl⟩
  have gW : Gr w W := by rw [hW]; exact gr19 _ _
  have hzW : W.heap.size = w.heap.size + 1 := by rw [hW]; simp
  have yW : W.heap[w.heap.size]? = some (.cells #[.int .i64 0, .int .i64 0, .slice none 0 0] 27 (0, 0)) := by rw [hW]; exact heap_alloc_new w _
  have hBl : ∀ b, B b → b < w.heap.size := (fr_disk p s).lo hd
  have GD : DiskA p s W B := star_gr (fr_disk p s) hd gW
  have KB := Lib.hid (fun (t : St) (u : World) (B1 : Nat → Prop) (h : DiskA p t u B1) (n : Nx B W B1 u) => (n.only.block _ (by omega) (fun e => by have := hBl _ e; omega)).trans yW)
  have KZ := Lib.hid (fun (t : St) (u : World) (B1 : Nat → Prop) (h : DiskA p t u B1) (n : Nx B W B1 u) (x : u.heap[w.heap.size]? = some (.cells #[.int .i64 0, .int .i64 0, .slice none 0 0] 27 (0, 0))) (a b c : Value) => by
    obtain ⟨q1, q2⟩ := mn_store2 x rfl a b c
    have hn : ∀ k, B1 k → ¬ (k = w.heap.size) := fun k hk e => by
      rcases n.new k hk with h1 | h1
      · have := hBl k h1; omega
      · omega
    exact (⟨q1, q2, (fr_disk p t).fr h q2 hn, (n.only.trans (Only.refl _ _) |> fun o => (⟨(Only.ofGr gW).trans o |>.andThen q2 fun k e => .inr (by omega), fun k hk => (n.new k hk).imp id fun h2 => by omega⟩ : Nx B w B1 _))⟩ : (((u.setCell ⟨w.heap.size, 0, none⟩ a).setCell ⟨w.heap.size, 1, none⟩ b).setCell ⟨w.heap.size, 2, none⟩ c).heap[w.heap.size]? = some (.cells #[a, b, c] 27 (0, 0)) ∧ Only (fun i => i = w.heap.size) u (((u.setCell ⟨w.heap.size, 0, none⟩ a).setCell ⟨w.heap.size, 1, none⟩ b).setCell ⟨w.heap.size, 2, none⟩ c) ∧ DiskA p t (((u.setCell ⟨w.heap.size, 0, none⟩ a).setCell ⟨w.heap.size, 1, none⟩ b).setCell ⟨w.heap.size, 2, none⟩ c) B1 ∧ Nx B w B1 (((u.setCell ⟨w.heap.size, 0, none⟩ a).setCell ⟨w.heap.size, 1, none⟩ b).setCell ⟨w.heap.size, 2, none⟩ c)))
  have ZC := Lib.hid (fun (u : World) (x : u.heap[w.heap.size]? = some (.cells #[.int .i64 0, .int .i64 0, .slice none 0 0] 27 (0, 0))) => (⟨by rw [cells_at x]; rfl, by rw [cells_at x]; rfl, by rw [cells_at x]; rfl, cells_free x 0, cells_free x 1, cells_free x 2⟩ : u.cell? ⟨w.heap.size, 0, none⟩ = some (.int .i64 0) ∧ u.cell? ⟨w.heap.size, 1, none⟩ = some (.int .i64 0) ∧ u.cell? ⟨w.heap.size, 2, none⟩ = some (.slice none 0 0) ∧ u.frozen? ⟨w.heap.size, 0, none⟩ = false ∧ u.frozen? ⟨w.heap.size, 1, none⟩ = false ∧ u.frozen? ⟨w.heap.size, 2, none⟩ = false))
  obtain ⟨n1, hn1, hn2⟩ := size_nat s nameL
  obtain ⟨e1, he1⟩ : ∃ r, (sizeR s nameL).2 = r := ⟨_, rfl⟩
  have LK := look_c p s nameS (by decide) name_right (by omega) W B GD
  rw [show nameS.data.toList = nameL from rfl] at LK
  obtain ⟨⟨t, e2⟩, hr2⟩ : ∃ q, readR s.call nameL 0 n1 = q := ⟨_, rfl⟩
  have RD := Lib.hid (fun u B1 (hh : DiskA p s.call u B1) => (show Calls Tryz.prog 118 #[.pointer (some ⟨p, 0, none⟩), .string ⟨#[109, 97, 110, 105, 102, 101, 115, 116]⟩, .int .i64 0, .int .i64 (n1 : Int)] u (Does u B1 (DiskA p s.call.call) (.tuple #[.string (bs t), .int .i64 e2])) from by
    have := d_read p s.call nameS 0 n1 (by decide) name_right (by show s.calls + 1 ≤ _; omega) (by omega) (by omega) u B1 hh
    rw [show readR s.call nameS.data.toList 0 n1 = (t, e2) from hr2] at this
    exact this))
  have hLE : loadE s = if e1 = 2 then (0, none) else if e1 ≠ 0 then (e1, none) else if e2 ≠ 0 then (e2, none) else (0, some t) := by
    unfold loadE
    rw [he1, hn1, Int.toNat_natCast, hr2]
  have hLT : loadT s = if e1 = 0 then s.call.call else s.call := by unfold loadT; rw [he1]
  rw [hLT]
  have HW := Lib.hid hW
  have HS := Lib.hid (show w.heap.size ≤ W.heap.size from gW.size)
  by_cases c2 : e1 = 0
  · subst c2
    rw [if_pos rfl]
    have lk : lookN s nameL = (n1 : Int) ∧ lookB s nameL = true ∧ lookC s nameL = 0 := by
      unfold lookN lookB lookC
      rw [he1, hn1]
      exact ⟨rfl, rfl, rfl⟩
    rw [lk.1, lk.2.1, lk.2.2] at LK
    have SZ := Lib.hid (show Calls Tryz.prog 89 #[.pointer (some ⟨p, 0, none⟩), .string ⟨#[109, 97, 110, 105, 102, 101, 115, 116]⟩] W (Does W B (DiskA p s.call) (.tuple #[.int .i64 (n1 : Int), .bool true, .int .i64 0])) from LK)
    clear hW gW hzW yW hBl GD hd hn1 hn2 he1 hr2 hLT hu LK lk
    by_cases c3 : e2 = 0
    · subst c3
      have hle := Lib.hid (show loadE s = (0, some t) by rw [hLE, if_neg (by decide), if_neg (by decide), if_neg (by decide)])
      have ht := hz t (by rw [hle.out])
      have GT := Lib.hid (fun u => get19_c (bs t) (by rw [bs_size]; omega) u)
      clear hLE ht hz
      go_enter Tryz.func97, Tryz.ntmps97
      go_wp2_with fail
      rw [← HW.out]
      refine SZ.out.mono ?_; rintro e u1 ⟨rfl, B1, dd, nn⟩
      have D1 := Lib.hid (show DiskA p s.call u1 B1 ∧ Nx B W B1 u1 from ⟨dd, nn⟩)
      clear dd nn
      have RD1 := Lib.hid (RD.out u1 B1 D1.out.1)
      go_wp2_with fail
      refine RD1.out.mono ?_; rintro e u2 ⟨rfl, B2, dd, nn⟩
      have D2 := Lib.hid (show DiskA p s.call.call u2 B2 ∧ Nx B W B2 u2 from ⟨dd, D1.out.2.trans nn⟩)
      clear dd nn RD1
      go_wp2_with fail
      refine (GT.out u2).mono ?_; intro e u3 h3
      obtain ⟨m, ma, mc, b, rfl, hm, hml, hgt, g3, hnv⟩ := gt_cases2 h3
      have NV2 := Lib.hid (show NewFl u2 (.slice ma m.files.length mc) ∧ (∀ b, B2 b → b < u2.heap.size) ∧ w.heap.size ≤ u2.heap.size from ⟨hnv, fun b hb => (fr_disk p _).lo D2.out.1 b hb, by have := D2.out.2.only.size; have := HS.out; omega⟩)
      clear hnv
      obtain ⟨V, hV⟩ : ∃ V, u3.alloc (.cells #[.int .i64 m.stage, .int .i64 m.pass, .slice ma m.files.length mc] 27) = V := ⟨_, rfl⟩
      have gV : Gr u3 V := by rw [← hV]; exact gr19 _ _
      have bV := mnB_at (show V.heap[u3.heap.size]? = some (.cells #[.int .i64 m.stage, .int .i64 m.pass, .slice ma m.files.length mc] 27 (0, 0)) by rw [← hV]; exact heap_alloc_new u3 _)
      obtain ⟨k0, k1, k2⟩ := bV
      have hmV := hm.gr gV
      have DV : DiskA p s.call.call V B2 := star_gr (fr_disk p _) D2.out.1 (g3.trans gV)
      have NV : Nx B W B2 V := D2.out.2.trans (Nx.gr (g3.trans gV))
      have xV := KB.out _ V B2 DV NV
      obtain ⟨c0, c1', c2', f0, f1, f2⟩ := ZC.out V xV
      rcases hgt with ⟨rfl, hmi⟩ | ⟨rfl, rfl, hno⟩
      · have z := KZ.out _ V B2 DV NV xV (.int .i64 m.stage) (.int .i64 m.pass) (.slice ma m.files.length mc)
        have Z := Lib.hid z
        have LS := Lib.hid (hmV.stay2 xV z.2.1)
        have HM := Lib.hid (And.intro hmi hml)
        clear h3 hm hml hmi g3 gV hmV DV NV xV z
        go_wp2_with fail
        exact bodyPost_ret (mn_results3 rfl rfl rfl rfl Z.out.1) rfl (by exact ld_good hle.out HM.out.1 HM.out.2 (ld_star (fr_disk p _) LS.out NV2.out.1 NV2.out.2.1 Z.out.2.2.1 Z.out.2.2.2 NV2.out.2.2))
      · have Z := Lib.hid (KZ.out _ V B2 DV NV xV (.int .i64 0) (.int .i64 0) (.slice none 0 0))
        have HN := Lib.hid hno
        dsimp only [List.length_nil] at hV k0 k1 k2 ⊢
        clear h3 hm hml hno g3 gV hmV DV NV xV
        go_wp2_with fail
        exact bodyPost_ret (mn_results3 rfl rfl rfl rfl Z.out.1) rfl (by exact ld_bad hle.out HN.out ⟨_, Z.out.2.2⟩)
    · have hle := Lib.hid (show loadE s = (e2, none) by rw [hLE, if_neg (by decide), if_neg (by decide), if_pos c3])
      have q3 : (e2 != 0) = true := by simpa using c3
      clear hLE c3 hz
      go_enter Tryz.func97, Tryz.ntmps97
      go_wp2_with fail
      rw [← HW.out]
      refine SZ.out.mono ?_; rintro e u1 ⟨rfl, B1, dd, nn⟩
      have D1 := Lib.hid (show DiskA p s.call u1 B1 ∧ Nx B W B1 u1 from ⟨dd, nn⟩)
      clear dd nn
      have RD1 := Lib.hid (RD.out u1 B1 D1.out.1)
      go_wp2_with fail
      refine RD1.out.mono ?_; rintro e u2 ⟨rfl, B2, dd, nn⟩
      have D2 := Lib.hid (show DiskA p s.call.call u2 B2 ∧ Nx B W B2 u2 from ⟨dd, D1.out.2.trans nn⟩)
      clear dd nn RD1
      have xu := KB.out _ u2 B2 D2.out.1 D2.out.2
      obtain ⟨c0, c1', c2', f0, f1, f2⟩ := ZC.out u2 xu
      have Z := Lib.hid (KZ.out _ u2 B2 D2.out.1 D2.out.2 xu (.int .i64 0) (.int .i64 0) (.slice none 0 0))
      clear xu
      go_wp2_with fail
      exact bodyPost_ret (mn_results3 rfl rfl rfl rfl Z.out.1) rfl (by exact ld_none hle.out ⟨_, Z.out.2.2⟩)
  · rw [if_neg c2]
    obtain ⟨ec, hec⟩ : ∃ r, lookC s nameL = r := ⟨_, rfl⟩
    obtain ⟨en, hen⟩ : ∃ r, lookN s nameL = r := ⟨_, rfl⟩
    have hb : lookB s nameL = false := by unfold lookB; rw [he1]; exact decide_eq_false c2
    have hle := Lib.hid (show loadE s = (ec, none) by
      rw [hLE, ← hec]
      unfold lookC
      rw [he1]
      by_cases c1 : e1 = 2
      · rw [if_pos c1, if_pos c1]
      · rw [if_neg c1, if_neg c1, if_pos c2])
    rw [hb, hec, hen] at LK
    have SZ := Lib.hid (show Calls Tryz.prog 89 #[.pointer (some ⟨p, 0, none⟩), .string ⟨#[109, 97, 110, 105, 102, 101, 115, 116]⟩] W (Does W B (DiskA p s.call) (.tuple #[.int .i64 en, .bool false, .int .i64 ec])) from LK)
    clear hW gW hzW yW hBl GD hd hn1 hn2 he1 hr2 hLT hu LK hLE c2 hb hec hen hz
    go_enter Tryz.func97, Tryz.ntmps97
    go_wp2_with fail
    rw [← HW.out]
    refine SZ.out.mono ?_; rintro e u1 ⟨rfl, B1, dd, nn⟩
    have D1 := Lib.hid (show DiskA p s.call u1 B1 ∧ Nx B W B1 u1 from ⟨dd, nn⟩)
    clear dd nn
    have xu := KB.out _ u1 B1 D1.out.1 D1.out.2
    obtain ⟨c0, c1', c2', f0, f1, f2⟩ := ZC.out u1 xu
    have Z := Lib.hid (KZ.out _ u1 B1 D1.out.1 D1.out.2 xu (.int .i64 0) (.int .i64 0) (.slice none 0 0))
    clear xu
    go_wp2_with fail
    exact bodyPost_ret (mn_results3 rfl rfl rfl rfl Z.out.1) rfl (by exact ld_none hle.out ⟨_, Z.out.2.2⟩)
end Go.Proofs.YtignfbdgpgidpaaGreatDoor
/- The example of layer 20's statements. (Cm: the program's Save and Load.) -/
namespace Go.Proofs.YtignfbdgpgidpaaGreatDoor
open Go.RowKit FsPlain CrcPlain OctPlain MnPlain CmPlain
set_option linter.unusedVariables false
set_option linter.unusedSimpArgs false
set_option maxRecDepth 20000
def Pd20 (p : Nat) (s : St) (M : List Asn) (w u : World) : Prop := Ps (DiskA p s :: M) w u
theorem pd_load {p : Nat} {s : St} {M : List Asn} {w u : World} (h : Pd20 p s M w u) (h1 : s.calls ≤ 1000000000) (hz : ∀ x, (loadE s).2 = some x → x.length ≤ 700) : Calls Tryz.prog 97 #[.pointer (some ⟨p, 0, none⟩)] u (LdTells s fun N w' => Pd20 p (loadT s) (M ++ N) w w') :=
  ps_load h (fr_disk p (loadT s)) fun B1 hp => cload20_c p s u B1 hp h1 (by have hok : s.ok := hp.1; have := hok.u; have := hok.r1; omega) hz
theorem pd_new (room : Int) (h0 : 0 ≤ room) (h1 : room ≤ 16777216) (w : World) : Calls Tryz.prog 16 #[.int .i64 room] w fun e w' => ∃ p, e = .returned (.tuple #[.pointer (some ⟨p, 0, none⟩), .int .i64 0]) ∧ Pd20 p (fresh room) [] w w' :=
  (new_c room h0 h1 w).mono fun e w' ⟨p, B, he, hd, hg, hb⟩ => ⟨p, he, ⟨fr_disk _ _, trivial⟩, B, ⟨B, fun _ => False, hd, (fun _ h => h), (fun _ _ h => h), fun b => (or_false _).symm ▸ Iff.rfl⟩, ⟨Only.ofGr hg, fun b h => .inr (hb b h)⟩⟩
end Go.Proofs.YtignfbdgpgidpaaGreatDoor
/- A number's digits. -/
namespace Go.Proofs.YtignfbdgpgidpaaGreatDoor
open Go.RowKit FsPlain
set_option linter.unusedVariables false
set_option linter.unusedSimpArgs false
set_option maxRecDepth 20000
namespace RnPlain
def digB (n : Nat) : List UInt8 := if n < 10 then [UInt8.ofNat (48 + n)] else digB (n / 10) ++ [UInt8.ofNat (48 + n % 10)]
termination_by n
decreasing_by omega
theorem digB_small {n : Nat} (h : n < 10) : digB n = [UInt8.ofNat (48 + n)] := by rw [digB, if_pos h]
theorem digB_big {n : Nat} (h : ¬ n < 10) : digB n = digB (n / 10) ++ [UInt8.ofNat (48 + n % 10)] := by rw [digB, if_neg h]
theorem digB_le : ∀ f n, n < f → (digB n).length ≤ n + 1
  | f + 1, n, h => by
    by_cases h10 : n < 10
    · rw [digB_small h10]; simp
    · rw [digB_big h10, List.length_append]
      have := digB_le f (n / 10) (by omega)
      simp only [List.length_singleton]
      omega
end RnPlain
open RnPlain
theorem dec_digB : ∀ (f n : Nat), n < f → Lib.decDigits n = digB n
  | f + 1, n, h => by
    by_cases h10 : n < 10
    · rw [digB_small h10, Lib.decDigits, dif_pos h10]
    · rw [digB_big h10, Lib.decDigits, dif_neg h10, dec_digB f (n / 10) (by omega)]
theorem itoa_digB {i : Int} (h : 0 ≤ i) : Lib.itoa i = digB i.toNat := by
  unfold Lib.itoa
  rw [if_neg (by omega)]
  exact dec_digB (i.toNat + 1) _ (by omega)
end Go.Proofs.YtignfbdgpgidpaaGreatDoor
/- Plain facts of stage: what comes next, the files of what is done; from nothing on Done comes. -/
namespace Go.Proofs.YtignfbdgpgidpaaGreatDoor
open Go.RowKit FsPlain MnPlain RnPlain
set_option linter.unusedVariables false
set_option linter.unusedSimpArgs false
set_option maxRecDepth 20000
namespace StPlain
def rightP (s p r : Int) : Bool := decide ((1 ≤ r ∧ r ≤ 64) ∧ (((s = 0 ∨ s = 1 ∨ s = 2 ∨ s = 3 ∨ s = 6 ∨ s = 7) ∧ p = 0) ∨ (s = 4 ∧ 1 ≤ p ∧ p < r) ∨ (s = 5 ∧ 1 ≤ p ∧ p ≤ r)))
def nextP (s p r : Int) (stop : Bool) : Int × Int × Bool :=
  if rightP s p r = false ∨ s = 7 then (0, 0, false)
  else if s = 3 ∨ s = 4 then (if stop = true ∨ r ≤ p + 1 then (5, p + 1, true) else (4, p + 1, true))
  else (s + 1, 0, true)
def gnB (p : Int) : ByteArray := if p < 0 then ⟨#[]⟩ else bs ([103, 114, 97, 112, 104, 46] ++ digB p.toNat)
def pairsO : Fl := ⟨⟨#[112, 97, 105, 114, 115, 46, 111, 117, 116]⟩, 8, 0, 0⟩
def filesP (s p : Int) : List Fl :=
  if p < 0 ∨ 1000 < p then []
  else if s = 1 then [⟨⟨#[99, 101, 108, 108, 115]⟩, 12, 0, 0⟩]
  else if s = 2 then [pairsO]
  else if s = 3 then [pairsO, ⟨gnB 0, 17, 0, 0⟩]
  else if s = 4 ∨ s = 5 then [pairsO, ⟨gnB p, 17, 0, 0⟩]
  else if s = 6 then [pairsO, ⟨⟨#[103, 114, 97, 112, 104, 46, 111, 117, 116]⟩, 17, 0, 0⟩]
  else if s = 7 then [⟨⟨#[112, 97, 105, 114, 115]⟩, 8, 0, 0⟩, ⟨⟨#[103, 114, 97, 112, 104]⟩, 17, 0, 0⟩]
  else []
def nsEq : List Fl → List Fl → Bool
  | [], [] => true
  | x :: a, y :: b => decide (x.name = y.name ∧ x.size = y.size) && nsEq a b
  | _, _ => false
def fitP (m : Mn) (r : Int) : Bool := mnB m && (rightP m.stage m.pass r && (decide (m.stage ≠ 0) && nsEq m.files (filesP m.stage m.pass)))
theorem rightP_iff {s p r : Int} : rightP s p r = true ↔ ((1 ≤ r ∧ r ≤ 64) ∧ (((s = 0 ∨ s = 1 ∨ s = 2 ∨ s = 3 ∨ s = 6 ∨ s = 7) ∧ p = 0) ∨ (s = 4 ∧ 1 ≤ p ∧ p < r) ∨ (s = 5 ∧ 1 ≤ p ∧ p ≤ r))) := decide_eq_true_iff
def AtP (s p r : Int) (i : Int) : Prop := rightP s p r = true ∧ s ≠ 7 ∧ ((s ≤ 3 ∧ i = s) ∨ ((s = 4 ∨ s = 5) ∧ i = 3 + p) ∨ (s = 6 ∧ i ≤ r + 4))
theorem at_next {s p r i : Int} (stop : Bool) (h : AtP s p r i) {t q : Int} {ok : Bool} (e : nextP s p r stop = (t, q, ok)) :
    ok = true ∧ rightP t q r = true ∧ ¬ t < s ∧ ¬ (t = s ∧ q ≤ p) ∧ t ≠ 0 ∧ (t = 7 ∨ AtP t q r (i + 1)) := by
  obtain ⟨h1, h7, h⟩ := h
  have k := rightP_iff.1 h1
  unfold nextP at e
  rw [if_neg (by rintro (h | h); rw [h1] at h; cases h; exact h7 h)] at e
  have mk : ∀ {t q : Int}, ((1 ≤ r ∧ r ≤ 64) ∧ (((t = 0 ∨ t = 1 ∨ t = 2 ∨ t = 3 ∨ t = 6 ∨ t = 7) ∧ q = 0) ∨ (t = 4 ∧ 1 ≤ q ∧ q < r) ∨ (t = 5 ∧ 1 ≤ q ∧ q ≤ r))) → rightP t q r = true := fun h => rightP_iff.2 h
  by_cases h34 : s = 3 ∨ s = 4
  · rw [if_pos h34] at e
    by_cases hs : stop = true ∨ r ≤ p + 1
    · rw [if_pos hs] at e
      simp only [Prod.mk.injEq] at e
      obtain ⟨rfl, rfl, rfl⟩ := e
      refine ⟨rfl, mk (by omega), by omega, by omega, by omega, .inr ⟨mk (by omega), by omega, ?_⟩⟩
      omega
    · rw [if_neg hs] at e
      have hr : ¬ r ≤ p + 1 := fun h => hs (.inr h)
      simp only [Prod.mk.injEq] at e
      obtain ⟨rfl, rfl, rfl⟩ := e
      refine ⟨rfl, mk (by omega), by omega, by omega, by omega, .inr ⟨mk (by omega), by omega, ?_⟩⟩
      omega
  · rw [if_neg h34] at e
    simp only [Prod.mk.injEq] at e
    obtain ⟨rfl, rfl, rfl⟩ := e
    refine ⟨rfl, mk (by omega), by omega, by omega, by omega, ?_⟩
    by_cases h6 : s = 6
    · exact .inl (by omega)
    · refine .inr ⟨mk (by omega), by omega, ?_⟩
      omega
theorem files_few (t q : Int) : (filesP t q).length ≤ 2 := by
  unfold filesP
  (repeat' split) <;> simp
end StPlain
end Go.Proofs.YtignfbdgpgidpaaGreatDoor
/- strconv.Itoa: the library's contract, laid at this program's numbers; the table that it reads; a run's name. -/
namespace Go.Proofs.YtignfbdgpgidpaaGreatDoor
open Go.RowKit Go.Shelf Go.Sort
set_option linter.unusedVariables false
set_option linter.unusedSimpArgs false
set_option maxRecDepth 20000
def itoaM_ren : Go.Shelf.Ren := ⟨fun | 171 => 174 | 243 => 194 | 246 => 204 | 283 => 206 | 284 => 207 | 285 => 208 | 286 => 209 | 129 => 187 | 317 => 210 | 318 => 211 | 319 => 212 | 320 => 213 | 337 => 214 | 338 => 215 | n => n, fun | 3 => 3 | 9 => 9 | 2 => 2 | 4 => 4 | 171 => 233 | 0 => 0 | 53 => 218 | 37 => 94 | 5 => 5 | 173 => 235 | 212 => 238 | 51 => 46 | 20 => 20 | 213 => 239 | 46 => 77 | 232 => 240 | 233 => 241 | n => n, fun | 17 => 0 | 18 => 1 | 19 => 2 | n => n⟩
theorem itoaM : Go.Proofs.LaysM.n171 Tryz.prog itoaM_ren := {
  mixed := by kernel_rfl
  f129 := Tryz.func187.trans (congrArg some (by kernel_rfl))
  f171 := Tryz.func174.trans (congrArg some (by kernel_rfl))
  f243 := Tryz.func194.trans (congrArg some (by kernel_rfl))
  f246 := Tryz.func204.trans (congrArg some (by kernel_rfl))
  f283 := Tryz.func206.trans (congrArg some (by kernel_rfl))
  f284 := Tryz.func207.trans (congrArg some (by kernel_rfl))
  f285 := Tryz.func208.trans (congrArg some (by kernel_rfl))
  f286 := Tryz.func209.trans (congrArg some (by kernel_rfl))
  f317 := Tryz.func210.trans (congrArg some (by kernel_rfl))
  f318 := Tryz.func211.trans (congrArg some (by kernel_rfl))
  f319 := Tryz.func212.trans (congrArg some (by kernel_rfl))
  f320 := Tryz.func213.trans (congrArg some (by kernel_rfl))
  f337 := Tryz.func214.trans (congrArg some (by kernel_rfl))
  f338 := Tryz.func215.trans (congrArg some (by kernel_rfl))
  t0 := Tryz.underlying0
  a0 := Tryz.isAgg0
  z0 := Tryz.sizeOf0
  v0 := Tryz.zeroValue0
  t2 := Tryz.underlying2
  a2 := Tryz.isAgg2
  z2 := Tryz.sizeOf2
  v2 := Tryz.zeroValue2
  t3 := Tryz.underlying3
  a3 := Tryz.isAgg3
  z3 := Tryz.sizeOf3
  v3 := Tryz.zeroValue3
  t4 := Tryz.underlying4
  a4 := Tryz.isAgg4
  z4 := Tryz.sizeOf4
  v4 := Tryz.zeroValue4
  t5 := Tryz.underlying5
  a5 := Tryz.isAgg5
  z5 := Tryz.sizeOf5
  v5 := Tryz.zeroValue5
  t9 := Tryz.underlying9
  a9 := Tryz.isAgg9
  z9 := Tryz.sizeOf9
  v9 := Tryz.zeroValue9
  t20 := Tryz.underlying20
  a20 := Tryz.isAgg20
  z20 := Tryz.sizeOf20
  v20 := Tryz.zeroValue20
  t37 := Tryz.underlying94
  a37 := Tryz.isAgg94
  z37 := Tryz.sizeOf94
  v37 := Tryz.zeroValue94
  t46 := Tryz.underlying77
  a46 := Tryz.isAgg77
  z46 := Tryz.sizeOf77
  v46 := Tryz.zeroValue77
  t51 := Tryz.underlying46
  a51 := Tryz.isAgg46
  z51 := Tryz.sizeOf46
  v51 := Tryz.zeroValue46
  t53 := Tryz.underlying218
  a53 := Tryz.isAgg218
  z53 := Tryz.sizeOf218
  v53 := Tryz.zeroValue218
  t171 := Tryz.underlying233
  a171 := Tryz.isAgg233
  z171 := Tryz.sizeOf233
  v171 := Tryz.zeroValue233
  t173 := Tryz.underlying235
  a173 := Tryz.isAgg235
  z173 := Tryz.sizeOf235
  v173 := Tryz.zeroValue235
  t212 := Tryz.underlying238
  a212 := Tryz.isAgg238
  z212 := Tryz.sizeOf238
  v212 := Tryz.zeroValue238
  t213 := Tryz.underlying239
  a213 := Tryz.isAgg239
  z213 := Tryz.sizeOf239
  t232 := Tryz.underlying240
  a232 := Tryz.isAgg240
  z232 := Tryz.sizeOf240
  v232 := Tryz.zeroValue240
  t233 := Tryz.underlying241
  a233 := Tryz.isAgg241
  z233 := Tryz.sizeOf241
  v233 := Tryz.zeroValue241
  g17 := by kernel_rfl
  g18 := by kernel_rfl
  g19 := by kernel_rfl
  i0 := by kernel_rfl
  i2 := by kernel_rfl
  i3 := by kernel_rfl
  i4 := by kernel_rfl
  i5 := by kernel_rfl
  i9 := by kernel_rfl
  i20 := by kernel_rfl
  i37 := by kernel_rfl
  i46 := by kernel_rfl
  i51 := by kernel_rfl
  i53 := by kernel_rfl
  i171 := by kernel_rfl
  i173 := by kernel_rfl
  i212 := by kernel_rfl
  i232 := by kernel_rfl
  i233 := by kernel_rfl
  m17 := by kernel_rfl
  m18 := by kernel_rfl
  m19 := by kernel_rfl }
def Tab (w : World) : Prop := ∃ T fr, w.heap[0]? = some (.cells (Lib.pow10Tab.map fun z => Value.int .u64 z).toArray T fr)
theorem tabIs_of {P : Program} {w : World} {name : String} {k : IntKind} {zs : List Int} {g : Nat} (hg : P.globalNamed name = some g) (h : ∃ T fr, w.heap[g]? = some (.cells (zs.map fun z => Value.int k z).toArray T fr)) : Lib.TabIs P w name k zs := by
  obtain ⟨T, fr, h⟩ := h
  unfold Lib.TabIs World.var?
  rw [hg]
  simp only [Option.bind_some, h]
theorem Tab.lt {w : World} (h : Tab w) : 0 < w.heap.size := by
  obtain ⟨T, fr, h⟩ := h
  exact (Array.getElem?_eq_some_iff.1 h).1
theorem Tab.only {w w' : World} {B : Nat → Prop} (h : Tab w) (o : Only B w w') (hB : ¬ B 0) : Tab w' := by
  have hl := h.lt
  obtain ⟨T, fr, h⟩ := h
  exact ⟨T, fr, by rw [o.block _ hl hB]; exact h⟩
theorem Tab.gr {w w' : World} (h : Tab w) (g : Gr w w') : Tab w' := h.only (Only.ofGr (B := fun _ => False) g) id
theorem itoa_c (i : Int) (h0 : -9223372036854775808 ≤ i) (h1 : i ≤ 9223372036854775807) (w : World) (h : Tab w) :
    Calls Tryz.prog 174 #[.int .i64 i] w fun e w' => e = .returned (.string (bs (Lib.itoa i))) ∧ Gr w w' :=
  (Any.strconv_Itoa itoaM i h0 h1 w (tabIs_of (by kernel_rfl) h)).mono fun e w' hh => by
    obtain ⟨he, k, os, rfl⟩ := hh
    exact ⟨he, rfl, rfl, rfl, by simp, fun b hb => by rw [heap_grow_old _ _ (by simpa using hb)]; rfl⟩
end Go.Proofs.YtignfbdgpgidpaaGreatDoor
