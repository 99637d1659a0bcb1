/- In one text: MgAwake. -/
import Derived.Test.YtpmglnghnelenaaGreatP47
/- The law's own example of a merge. -/
namespace Go.Proofs.YtpmglnghnelenaaGreat
open Go.RowKit FsPlain CrcPlain OctPlain FramePlain RecPlain RdPlain RnPlain WrPlain
set_option linter.unusedVariables false
set_option linter.unusedSimpArgs false
set_option maxRecDepth 20000
def gA : ByteArray := ⟨#[97]⟩
def gB : ByteArray := ⟨#[98]⟩
def gC : ByteArray := ⟨#[99]⟩
def X17 : List (List ByteArray) := [[gA, gC], [gB, gC]]
theorem le17 : leT gA gB = true ∧ leT gA gC = true ∧ leT gB gC = true := by
  unfold leT ltT
  rw [Lib.toList_data, Lib.toList_data, Lib.toList_data]
  decide
theorem ex_srt17 : X17.all srtB = true := by
  rw [all_srtB]
  intro l hl
  simp only [X17, List.mem_cons, List.not_mem_nil, or_false] at hl
  rcases hl with rfl | rfl
  · simp [Srt, le17]
  · simp [Srt, le17]
theorem ex_sort17 : sortT X17.flatten true = [gA, gB, gC] := by
  symm
  refine sortT_isU (by simp [Srt, le17]) (by decide) fun x => ?_
  show x ∈ [gA, gB, gC] ↔ x ∈ [gA, gC, gB, gC]
  simp only [List.mem_cons, List.not_mem_nil, or_false]
  constructor
  · rintro (h | h | h) <;> simp [h]
  · rintro (h | h | h | h) <;> simp [h]
theorem ex_few17 : ∀ l ∈ X17, l.length ≤ 12 ∧ (∀ s ∈ l, s.size ≤ 80) ∧ layB 1 l = true := by
  intro l hl
  simp only [X17, List.mem_cons, List.not_mem_nil, or_false] at hl
  rcases hl with rfl | rfl
  · exact ⟨by decide, fun s hs => by simp only [List.mem_cons, List.not_mem_nil, or_false] at hs; rcases hs with rfl | rfl <;> decide, by decide⟩
  · exact ⟨by decide, fun s hs => by simp only [List.mem_cons, List.not_mem_nil, or_false] at hs; rcases hs with rfl | rfl <;> decide, by decide⟩
theorem lies_of17 {u v : World} {p : Nat} {l : List ByteArray} (h : ∀ i x, l[i]? = some x → v.cell? ⟨p, i, none⟩ = some (.string x)) (hs : p < v.heap.size) : Lies v (.slice (some ⟨p, 0, none⟩) l.length l.length) l := by
  refine ⟨_, l.length, rfl, Nat.le_refl _, .inr ⟨_, 0, rfl, hs, fun j x hj => ?_⟩⟩
  rw [Nat.zero_add]; exact h j x hj
theorem two_cells (u : World) (x y : ByteArray) (T : TypeId) : Lies (u.alloc (.cells #[.string x, .string y] T)) (.slice (some ⟨u.heap.size, 0, none⟩) 2 2) [x, y] := by
  refine lies_of17 (u := u) (l := [x, y]) (fun i z hz => ?_) (by simp)
  rw [World.cell?_alloc_new]
  match i, hz with
  | 0, hz => cases hz; rfl
  | 1, hz => cases hz; rfl
/-- Two lists of two that the call has just made. -/
theorem liesSS_two (w : World) (T U : TypeId) : LiesSS (((w.alloc (.cells #[.string gA, .string gC] T)).alloc (.cells #[.string gB, .string gC] T)).alloc (.cells #[.slice (some ⟨w.heap.size, 0, none⟩) 2 2, .slice (some ⟨w.heap.size + 1, 0, none⟩) 2 2] U)) (.slice (some ⟨w.heap.size + 1 + 1, 0, none⟩) 2 2) X17 := by
  have e1 : (w.alloc (.cells #[.string gA, .string gC] T)).heap.size = w.heap.size + 1 := World.size_alloc _ _
  have e2 : ((w.alloc (.cells #[.string gA, .string gC] T)).alloc (.cells #[.string gB, .string gC] T)).heap.size = w.heap.size + 1 + 1 := by rw [World.size_alloc, e1]
  have l1 := (two_cells w gA gC T).gr ((Below.alloc (Below.refl _ _) (Nat.le_refl _) (.cells #[.string gB, .string gC] T) : Gr _ _))
  have l2 := two_cells (w.alloc (.cells #[.string gA, .string gC] T)) gB gC T
  rw [e1] at l2
  refine ⟨_, 2, rfl, Nat.le_refl _, fun _ => ⟨w.heap.size + 1 + 1, 0, rfl, by rw [World.size_alloc, e2]; omega, fun j l hl => ?_⟩⟩
  rw [Nat.zero_add, ← e2, World.cell?_alloc_new]
  have g3 : ∀ o : Obj, Gr ((w.alloc (.cells #[.string gA, .string gC] T)).alloc (.cells #[.string gB, .string gC] T)) (((w.alloc (.cells #[.string gA, .string gC] T)).alloc (.cells #[.string gB, .string gC] T)).alloc o) := fun o => Below.alloc (Below.refl _ _) (Nat.le_refl _) _
  match j, hl with
  | 0, hl => cases hl; exact ⟨_, rfl, l1.gr (g3 _)⟩
  | 1, hl => cases hl; exact ⟨_, rfl, l2.gr (g3 _)⟩
theorem clear_one {s : St} {n : List UInt8} (hc : WrPlain.Calm s) (hg : ∃ f, s.get n = some f) : (clearR s [n]).2 = 0 := by
  have e := remove_calm hc hg
  show (if (removeR s n).2 = 0 then clearR (removeR s n).1 [] else removeR s n).2 = 0
  rw [e]; rfl
theorem bnew_x (m : Int) (w : World) (h : 0 ≤ m) (h2 : m ≤ 9223372036854775807) :
    Calls Tryz.prog 7 #[.int .i64 m] w fun e w' => e = .returned (.pointer (some ⟨w.heap.size, 0, none⟩)) ∧ w' = w.alloc (.cells (bcells ⟨m, 0, 0⟩) 57) := by
  go_enter Tryz.func7, Tryz.ntmps7
  go_wp2_with fail
  go_ret
  exact ⟨rfl, rfl⟩
set_option maxHeartbeats 8000000 in
theorem awake17_c (w : World) : Calls Tryz.prog 5 #[] w fun e w' => e = .returned (.bool true) ∧ Gr w w' := by
  have hs1 : sizeB 1 = true := by decide
  have i1 : I64 1 := by unfold I64; omega
  have hl3 : layB 1 [gA, gB, gC] = true := by decide
  have LS := Lib.hid (fun u => liesSS_two u 9 26)
  have BN := Lib.hid (fun (u : World) => bu_new 12 u (by decide) (by decide))
  have BX := Lib.hid (fun (u : World) => bnew_x 12 u (by decide) (by decide))
  have MN := Lib.hid (fun (u : World) (d b : Value) (a : Option Addr) => merge17_many (a := a) (n := 65) (c := 65) (d := d) (b := b) (out := ⟨#[122]⟩) (size := 1) true (by decide) (by decide) u)
  have RR := Lib.hid (fun u => rright_c ⟨#[121]⟩ (by decide) u)
  have rr : rightB (⟨#[121]⟩ : ByteArray).data.toList = true := by decide
  rw [rr] at RR
  have MU := Lib.hid (fun (u : World) => must6_c (w := u.alloc (.cells #[.string gA, .string gB, .string gC] 9)) (lies_of17 (u := u) (l := [gA, gB, gC]) (p := u.heap.size) (fun i z hz => by
    rw [World.cell?_alloc_new]
    match i, hz with
    | 0, hz => cases hz; rfl
    | 1, hz => cases hz; rfl
    | 2, hz => cases hz; rfl) (by simp)) 1 i1 (by decide) (fun s hs => by simp only [List.mem_cons, List.not_mem_nil, or_false] at hs; rcases hs with rfl | rfl | rfl <;> decide))
  unfold gA gB gC at LS MU
  have DK := Lib.hid (disk17_c (LS.out w) 1 i1 (by decide) ex_few17)
  obtain ⟨C9, hC9⟩ : ∃ C9, layR 1 [gA, gB, gC] = C9 := ⟨_, rfl⟩
  have hz9 : C9.size ≤ 1000 := by rw [← hC9]; exact lay_small hl3 (by decide)
  have hC9' : layR 1 [⟨#[97]⟩, ⟨#[98]⟩, ⟨#[99]⟩] = C9 := hC9
  rw [hC9'] at MU
  have HC9 := Lib.hid hC9
  have g0 : Gr w (((w.alloc (.cells #[.string ⟨#[97]⟩, .string ⟨#[99]⟩] 9)).alloc (.cells #[.string ⟨#[98]⟩, .string ⟨#[99]⟩] 9)).alloc (.cells #[.slice (some ⟨w.heap.size, 0, none⟩) 2 2, .slice (some ⟨w.heap.size + 1, 0, none⟩) 2 2] 26)) := Below.alloc (Below.alloc (Below.alloc (Below.refl _ w) (Nat.le_refl _) _) (by simp) _) (by simp; omega) _
  have G0 := Lib.hid g0
  clear rr hl3 LS hC9 hC9' g0
  go_enter Tryz.func5, Tryz.ntmps5
  go_wp2_with fail
  refine DK.out.mono ?_; rintro e u2 ⟨p, v, s, B, rfl, hD, hst, nx⟩
  have hvs : ∃ a c, v = .slice a 2 c := by
    obtain ⟨_, hr, _⟩ := part_at 1 rfl hst
    obtain ⟨a, c, e, _⟩ := rowE_shape hr
    rw [nmsX_len] at e
    exact ⟨a, c, e⟩
  obtain ⟨va, vc, rfl⟩ := hvs
  have HD := Lib.hid hD
  have HST := Lib.hid hst
  have NX := Lib.hid ((show Nx (fun _ => False) w (fun _ => False) _ from Nx.gr G0.out).trans nx)
  clear hD hst nx DK G0
  go_wp2_with fail
  refine (BN.out _).mono ?_; rintro e u3 ⟨rfl, hb, g3⟩
  have DB := Lib.hid (dm_made HST.out NX.out hb (fun x hx => by omega) g3)
  clear hb g3
  obtain ⟨P, hP⟩ : ∃ P, u2.heap.size = P := ⟨_, rfl⟩
  rw [hP] at DB ⊢
  clear hP
  have FR : Frs [RowA (.slice va 2 vc) (nmsX X17.length)] := ⟨fr_row _ _, trivial⟩
  have MG := Lib.hid (DB.out.merge (fun B k => merge17_c (F := filesX 1 X17) (out := nmY) (v := .slice va 2 vc) i1 true (filesX_ok (by decide) ex_few17 HD.out) (by rw [filesX_len]; decide) (filesX_sum (by decide) ex_few17 HD.out) nmY_size nmY_right (HD.out.none _ fun i hi e => (name_x (by have : X17.length = 2 := rfl; omega)).2.2 e.symm) (by have := HD.out.calls; have : X17.length = 2 := rfl; omega) FR (fun wr B' k => by
    rw [filesX_fst]
    obtain ⟨_, hr, _⟩ := part_at 0 rfl k
    exact row_lies hr) k))
  unfold nmY at MG
  go_wp2_with fail
  refine MG.out.mono ?_; rintro e u4 ⟨s', b', k, c, er, rfl, hR, db⟩
  obtain ⟨_, hok⟩ := (mj_both hs1 (by decide) ex_few17 HD.out (by decide) hR).resolve_right (fun q => by rw [ex_srt17] at q; cases q.1)
  have OK := Lib.hid hok
  have hk : k = 3 := by rw [hok.k, ex_sort17]; rfl
  have he : er = 0 := hok.er
  subst he hk
  have D5 := Lib.hid (fun (u : World) (h : u = u4.alloc (.cells #[.int .i64 3, .int .u32 c] 33)) => db.blk_new FR _ _ h)
  obtain ⟨I, hI⟩ : ∃ I, u4.heap.size = I := ⟨_, rfl⟩
  rw [hI] at D5
  have HI := Lib.hid hI
  have FR2 := Lib.hid (show Frs [Blk I #[.int .i64 3, .int .u32 c] 33, RowA (.slice va 2 vc) (nmsX X17.length)] from ⟨fr_blk _ _ _, FR⟩)
  clear hR db hok hI FR MG
  have hIz : u4.heap.size = I := HI.out
  go_wp2_with fail
  have D := Lib.hid (D5.out _ rfl)
  obtain ⟨u5, hu5⟩ : ∃ u5, u4.alloc (.cells #[.int .i64 3, .int .u32 c] 33) = u5 := ⟨_, rfl⟩
  rw [hu5] at D ⊢
  clear hu5 D5 hIz
  have hmk : ∀ u : World, (Instr.makeSlice 26 (.int .i64 65) (.int .i64 65)).run Tryz.prog u = .ok (.slice (some ⟨u.heap.size, 0, none⟩) 65 65) (u.alloc (.cells (Array.replicate 65 (.string ⟨#[]⟩)) 9)) := fun _ => by kernel_rfl
  have GAL := Lib.hid (fun (u : World) (o : Obj) => (Below.alloc (Below.refl _ _) (Nat.le_refl _) _ : Gr u (u.alloc o)))
  go_upto_region 3 with (fail)
  go_cut [7] (fun v wx => v = .int .i64 1 ∧ Gr u5 wx)
  case first =>
    go_region_held3 (fun u => True) (trivial)
      (first
        | (go_at_call 7; (refine (BX.out _).mono ?_); rintro e t1 ⟨rfl, rfl⟩)
        | (go_at_call 8; (refine (MN.out _ _ _ _).mono ?_); rintro e t2 ⟨rfl, o2, rfl⟩))
    all_goals
      go_wp2_with fail
      go_meet
      refine ⟨rfl, ?_⟩
      repeat (first | assumption | exact Gr.refl _ | refine Below.drew ?_ | refine Gr.trans ?_ (GAL.out _ _) | refine Below.setCell ?_ (by simp) _)
  clear hmk BX MN
  obtain ⟨rfl, hg⟩ := hcut
  have D6 := Lib.hid (DM.gr FR2.out D.out hg)
  clear hg D
  have hlen := OK.out.len
  have hfew := OK.out.few
  have hsz9 := OK.out.size
  have hhas := OK.out.has
  rw [ex_sort17] at hfew hsz9 hhas
  rw [HC9.out] at hsz9 hhas
  have XC := Lib.hid (fun u (h : DM p P s' b' [Blk I #[.int .i64 3, .int .u32 c] 33, RowA (.slice va 2 vc) (nmsX X17.length)] w u) => (h.blk 0 rfl 0 : u.cell? ⟨I, 0, none⟩ = some (.int .i64 3)))
  have W1 := Lib.hid (fun u (h : DM p P s' b' [Blk I #[.int .i64 3, .int .u32 c] 33, RowA (.slice va 2 vc) (nmsX X17.length)] w u) => h.disk FR2.out (fun B hB => whole17_c hhas OK.out.calm.1 OK.out.calm.2 (by have := OK.out.calls; omega) nmY_size nmY_right (by omega) u B hB))
  have q2 : Quiet s' s'.call.call := (quiet_call s').trans (quiet_call _)
  have hcl := clear_one (s := s'.call.call) (n := nmY.data.toList) (q2.calm OK.out.calm.1 OK.out.calm.2) (by obtain ⟨f, f1, _⟩ := hhas.quiet q2; exact ⟨f, f1⟩)
  have CL := Lib.hid (fun (u : World) (h : DM p P s'.call.call b' [Blk I #[.int .i64 3, .int .u32 c] 33, RowA (.slice va 2 vc) (nmsX X17.length)] w u) => (DM.new (Q := Blk u.heap.size #[.string nmY] 9) (u := u.alloc (.cells #[.string nmY] 9)) (B' := fun b => b = u.heap.size) FR2.out h (GAL.out _ _) ⟨heap_alloc_new u _, fun _ => Iff.rfl⟩ (fun b hb => by rw [hb]; exact Nat.le_refl _)).clear (fun B hB => clear17_c (l := [nmY]) (v := .slice (some ⟨u.heap.size, 0, none⟩) 1 1) (by decide) (fun n hn => by
      simp only [List.mem_cons, List.not_mem_nil, or_false] at hn
      subst hn
      exact ⟨nmY_right, nmY_size⟩) (by have := OK.out.calls; show s'.calls + 1 + 1 ≤ _; omega) ⟨fr_bu _ _, fr_blk _ _ _, FR2.out⟩ (fun wr B' j => by
      obtain ⟨_, hr, _⟩ := part_at (L := BuA P b' :: Blk u.heap.size #[.string nmY] 9 :: [Blk I #[.int .i64 3, .int .u32 c] 33, RowA (.slice va 2 vc) (nmsX X17.length)]) 1 rfl j
      refine lies_of17 (u := wr) (l := [nmY]) (fun i z hz => ?_) (lt_of_block hr.1)
      rw [cells_at hr.1]
      match i, hz with
      | 0, hz => cases hz; rfl) hB))
  simp only [List.map_cons, List.map_nil, hcl] at CL
  unfold nmY at W1 CL
  obtain ⟨x0⟩ : Nonempty (wc.cell? ⟨I, 0, none⟩ = some (.int .i64 3)) := ⟨XC.out _ D6.out⟩
  clear hlen hfew hsz9 hhas q2 hcl
  go_wp2_with fail
  refine (W1.out _ D6.out).mono ?_; rintro e u7 ⟨rfl, d7⟩
  have D7 := Lib.hid d7
  clear d7 W1 XC
  go_wp2_with fail
  refine (MU.out _).mono ?_; rintro e u8 ⟨rfl, g8⟩
  have D8 := Lib.hid (DM.gr FR2.out D7.out (Gr.trans (GAL.out _ _) g8))
  clear g8
  go_wp2_with fail
  refine (RR.out _).mono ?_; rintro e u9 ⟨rfl, rfl⟩
  go_wp2_with fail
  refine (CL.out _ D8.out).mono ?_; rintro e u9 ⟨rfl, d9⟩
  have D9 := Lib.hid d9
  clear d9
  go_wp2_with fail
  go_ret
  exact ⟨rfl, D9.out.end⟩
end Go.Proofs.YtpmglnghnelenaaGreat
