/- In one text: XsOne, XsGat. -/
import Derived.Test.YtjplkmmhjfpdaaaGreatDoorQ39
import Derived.Deep.DeepCutAuto
/- Files of a sort become one. -/
namespace Go.Proofs.YtjplkmmhjfpdaaaGreatDoor
open Go.RowKit FsPlain CrcPlain OctPlain FramePlain RecPlain RdPlain RnPlain WrPlain XsPlain
set_option linter.unusedVariables false
set_option linter.unusedSimpArgs false
set_option maxRecDepth 20000
theorem stars_only {L : List Asn} (hF : Frs L) {w w' : World} {B C : Nat → Prop} (h : stars L w B) (o : Only C w w') (hC : ∀ b, B b → ¬ C b) : stars L w' B := (fr_stars hF).fr h o hC
theorem gr_drew {a b : World} (g : Gr a b) : Gr a b.drew := Below.drew g
theorem gr_al {a b : World} (o : Obj) (g : Gr a b) : Gr a (b.alloc o) := g.trans (gral17 _ _)
abbrev RdAt (X D P : Nat) (size : Int) (u : Bool) (v : World) : Prop := v.cell? ⟨X, 0, none⟩ = some (.pointer (some ⟨D, 0, none⟩)) ∧ v.cell? ⟨X, 1, none⟩ = some (.pointer (some ⟨P, 0, none⟩)) ∧ v.cell? ⟨X, 3, none⟩ = some (.int .i64 size) ∧ v.cell? ⟨X, 4, none⟩ = some (.bool u)
theorem rd_keep {X D P : Nat} {size : Int} {u : Bool} {t : World} (h : RdAt X D P size u t) (hX : X < t.heap.size) (o : Obj) : RdAt X D P size u (t.alloc o) := by
  have g := gral17 t o
  exact ⟨by rw [Below.cell g (p := ⟨X, 0, none⟩) hX]; exact h.1, by rw [Below.cell g (p := ⟨X, 1, none⟩) hX]; exact h.2.1, by rw [Below.cell g (p := ⟨X, 3, none⟩) hX]; exact h.2.2.1, by rw [Below.cell g (p := ⟨X, 4, none⟩) hX]; exact h.2.2.2⟩
theorem rd_keep2 {X D P : Nat} {size : Int} {u : Bool} {t : World} (h : RdAt X D P size u t) {q : Nat} (hX : X < t.heap.size) (hq : X ≠ q) (i j : Nat) (a b : Value) : RdAt X D P size u ((t.setCell ⟨q, i, none⟩ a).setCell ⟨q, j, none⟩ b) := by
  have o : Only (fun k => k = q) t ((t.setCell ⟨q, i, none⟩ a).setCell ⟨q, j, none⟩ b) := (Only.cell1 t q i a).trans (Only.cell1 _ q j b)
  exact ⟨by rw [o.cell (p := ⟨X, 0, none⟩) hX hq]; exact h.1, by rw [o.cell (p := ⟨X, 1, none⟩) hX hq]; exact h.2.1, by rw [o.cell (p := ⟨X, 3, none⟩) hX hq]; exact h.2.2.1, by rw [o.cell (p := ⟨X, 4, none⟩) hX hq]; exact h.2.2.2⟩
theorem lt_al1 (w : World) (o : Obj) : w.heap.size < ((w.alloc o).drew).heap.size := by show w.heap.size < (w.alloc o).heap.size; simp
theorem new_al1 (w : World) (c : Array Value) (T : TypeId) : ((w.alloc (.cells c T)).drew).heap[w.heap.size]? = some (.cells c T (0, 0)) := heap_alloc_new w _
theorem one_cells {v t : World} {q : Nat} {T : TypeId} (hb : t.heap[q]? = v.heap[q]?) (hv : v.heap[q]? = some (.cells #[.int .i64 0, .int .u32 0] T (0, 0))) : t.cell? ⟨q, 0, none⟩ = some (.int .i64 0) ∧ t.cell? ⟨q, 1, none⟩ = some (.int .u32 0) ∧ t.frozen? ⟨q, 0, none⟩ = false ∧ t.frozen? ⟨q, 1, none⟩ = false ∧ q < t.heap.size := by
  have h := hb.trans hv
  exact ⟨by rw [cells_at h]; rfl, by rw [cells_at h]; rfl, cells_free h 0, cells_free h 1, lt_of_block h⟩
def MidR (X D P : Nat) (s0 : St) (b0 : Bu) (C inn out pre nm : ByteArray) (size : Int) (u : Bool) (s : St) (Xq Yq : Wq) (n : Nat) (M : List Asn) (w1 : World) (B1 : Nat → Prop) (v : World) (s1 : St) (b1 : Bu) (er : Int) (B' : Nat → Prop) (w' : World) : Prop :=
  ((er = 0 ∧ XsM s0 b0 out size u Xq Yq nm s1 b1) ∨ (er ≠ 0 ∧ SortR s0 b0 C inn out size u s1 b1 0 0 er)) ∧ s1.calls ≤ s.calls + 1000000 ∧ stars ([DiskA D s1, BuA P b1] ++ (RoadA X D P pre size u (n + 1) :: M)) w' B' ∧ Nx B1 w1 B' w' ∧ (∀ x, w1.heap.size ≤ x → x < v.heap.size → ¬ B' x ∧ w'.heap[x]? = v.heap[x]?)
def MidGot (X D P : Nat) (s0 : St) (b0 : Bu) (C inn out pre nm : ByteArray) (size : Int) (u : Bool) (s : St) (Xq Yq : Wq) (n : Nat) (M : List Asn) (w1 : World) (B1 : Nat → Prop) (v : World) (e : Ending) (w' : World) : Prop :=
  ∃ s1 b1 k c er B', e = .returned (.tuple #[.agg #[.int .i64 k, .int .u32 c], .int .i64 er]) ∧ MidR X D P s0 b0 C inn out pre nm size u s Xq Yq n M w1 B1 v s1 b1 er B' w' ∧ X < w'.heap.size ∧ RdAt X D P size u w'
def MidGotB (X D P : Nat) (s0 : St) (b0 : Bu) (C inn out pre nm : ByteArray) (size : Int) (u : Bool) (s : St) (Xq Yq : Wq) (n : Nat) (M : List Asn) (w1 : World) (B1 : Nat → Prop) (v : World) (e : Ending) (w' : World) : Prop :=
  ∃ s1 b1 k c er B', e = .returned (.tuple #[.agg #[.int .i64 k, .int .u32 c], .int .i64 er]) ∧ MidR X D P s0 b0 C inn out pre nm size u s Xq Yq n M w1 B1 v s1 b1 er B' w' ∧ X < w'.heap.size ∧ (w'.cell? ⟨w1.heap.size, 0, none⟩ = some (.int .i64 0) ∧ w'.cell? ⟨w1.heap.size, 1, none⟩ = some (.int .u32 0) ∧ w'.frozen? ⟨w1.heap.size, 0, none⟩ = false ∧ w'.frozen? ⟨w1.heap.size, 1, none⟩ = false ∧ w1.heap.size < w'.heap.size) ∧ RdAt X D P size u w'
def OneCut (X D P : Nat) (s0 : St) (b0 : Bu) (C inn out pre : ByteArray) (size : Int) (u : Bool) (s : St) (Xq Yq : Wq) (n : Nat) (M : List Asn) (w : World) (B : Nat → Prop) (v8 : Value) (wx : World) : Prop :=
  ∃ s1 b1 er B', v8 = .int .i64 er ∧ ((er = 0 ∧ XsM s0 b0 out size u Xq Yq (nameN pre (n : Int)) s1 b1) ∨ (er ≠ 0 ∧ SortR s0 b0 C inn out size u s1 b1 0 0 er)) ∧ s1.calls ≤ s.calls + 1000000 ∧ stars ([DiskA D s1, BuA P b1] ++ (RoadA X D P pre size u (n + 1) :: M)) wx B' ∧ Nx B w B' wx
def OneGot (X D P : Nat) (s0 : St) (b0 : Bu) (C inn out pre : ByteArray) (size : Int) (u : Bool) (L : List ByteArray) (s : St) (Xq Yq : Wq) (n : Nat) (M : List Asn) (w : World) (B : Nat → Prop) (e : Ending) (w' : World) : Prop :=
  ∃ s2 b2 nm er B', e = .returned (.tuple #[.string nm, .int .i64 er]) ∧ ((er = 0 ∧ nm = nameN pre (n : Int) ∧ XsJ s0 b0 C out size u L s2 b2 (Yq ++ [(nameN pre (n : Int), sortT (Xq.map (·.2)).flatten u)])) ∨ (er ≠ 0 ∧ SortR s0 b0 C inn out size u s2 b2 0 0 er)) ∧ s2.calls ≤ s.calls + 1000064 ∧ stars ([DiskA D s2, BuA P b2] ++ (RoadA X D P pre size u (n + 1) :: M)) w' B' ∧ Nx B w B' w'
set_option maxHeartbeats 4000000 in
theorem one18_c {X D P : Nat} {s0 : St} {b0 : Bu} {C inn out pre : ByteArray} {size : Int} {u : Bool} {L : List ByteArray} {s : St} {b : Bu} {Xq Yq : Wq} {n : Nat} (hJ : XsJ s0 b0 C out size u L s b (Xq ++ Yq)) (hpre : PreN out pre) (hro : rightB out.data.toList = true ∧ out.size ≤ 8) (hnm : ∀ p ∈ Xq ++ Yq, ∃ i : Nat, i < n ∧ p.1 = nameN pre (i : Int)) (hn : n ≤ 50000) (hz : I64 size) (hCz : C.size ≤ 5000) (hX1 : 1 ≤ Xq.length ∨ Xq ++ Yq = []) (hX : Xq.length ≤ 64) (h16 : 16 ≤ b0.m - b0.now) (hfan : 4 * (Xq.length : Int) + 4 ≤ b0.m - b0.now) (hc0 : 0 ≤ s0.calls) (hcs : s.calls ≤ s0.calls + 900000000) (hc : s.calls ≤ 900000000) {v : Value} {w : World} {B : Nat → Prop} {M : List Asn} (hM : Frs M) (hT : TabB w B) (hv : ∀ (wr : World) (B' : Nat → Prop), stars M wr B' → Lies wr v (Xq.map (·.1))) (h : stars ([DiskA D s, BuA P b] ++ (RoadA X D P pre size u n :: M)) w B) :
    Calls Tryz.prog 69 #[.pointer (some ⟨X, 0, none⟩), v] w (OneGot X D P s0 b0 C inn out pre size u L s Xq Yq n M w B) := by
  have hno : ∀ p ∈ Xq ++ Yq, p.1 ≠ nameN pre (n : Int) := fun p hp e => by
    obtain ⟨i, hi, e2⟩ := hnm p hp
    have h1 : nameN pre (i : Int) = nameN pre (n : Int) := e2.symm.trans e
    have := name_inj (congrArg (fun x : ByteArray => x.data.toList) h1)
    omega
  have how : isB (nameN pre (n : Int)).data.toList out.data.toList = true ∧ rightB (nameN pre (n : Int)).data.toList = true ∧ (nameN pre (n : Int)).size ≤ 24 := ⟨pre_is hpre n, pre_right hpre hro.1 hro.2 (by omega)⟩
  have FM : Frs (RoadA X D P pre size u (n + 1) :: M) := ⟨fr_road _ _ _ _ _ _ _, hM⟩
  have NX := Lib.hid (does_at (L := [DiskA D s, BuA P b] ++ (RoadA X D P pre size u n :: M)) (Q := RoadA X D P pre size u (n + 1)) 2 rfl ⟨fr_disk _ _, fr_bu _ _, fr_road _ _ _ _ _ _ _, hM⟩ h fun B1 h1 => next18_c (by have := pre_size hpre hro.2; omega) (by omega) hT.tab h1)
  have HV : ∀ (wr : World) (B' : Nat → Prop), stars (RoadA X D P pre size u (n + 1) :: M) wr B' → Lies wr v (Xq.map (·.1)) := fun wr B' q => by
    obtain ⟨B3, q3⟩ := tail17 q
    exact hv wr B3 q3
  have MG := Lib.hid (fun (vw : World) (B1 : Nat → Prop) (q : stars ([DiskA D s, BuA P b] ++ (RoadA X D P pre size u (n + 1) :: M)) vw B1) => xs_merge_c (inn := inn) hJ hz hCz how hno hX h16 hfan hc0 hcs hc FM HV q)
  have CL := Lib.hid (fun s1 b1 (vw : World) (B1 : Nat → Prop) (hm : XsM s0 b0 out size u Xq Yq (nameN pre (n : Int)) s1 b1) (hcl : s1.calls ≤ s.calls + 1000000) (q : stars ([DiskA D s1, BuA P b1] ++ (RoadA X D P pre size u (n + 1) :: M)) vw B1) => xs_clear_c (inn := inn) hJ how hno hX1 hX h16 hc0 hm (by omega) (by omega) FM HV q)
  have FMH := Lib.hid FM
  obtain ⟨nm, hnme⟩ : ∃ nm, nameN pre (n : Int) = nm := ⟨_, rfl⟩
  rw [hnme] at NX MG CL
  have HNM := Lib.hid hnme
  clear hJ hpre hro hnm hn hz hCz hX1 hX h16 hfan hc0 hcs hc hM hT hv h hno how FM HV hnme
  go_enter Tryz.func69, Tryz.ntmps69
  go_wp2_with fail
  refine NX.out.mono ?_; rintro e w1 ⟨rfl, B1, h1, n1⟩
  have H1 := Lib.hid (show stars ([DiskA D s, BuA P b] ++ (RoadA X D P pre size u (n + 1) :: M)) w1 B1 from h1)
  have N1 := Lib.hid n1
  clear h1 n1 NX
  go_wp2_with fail
  go_cut [7, 8] (fun v7 v8 wx => OneCut X D P s0 b0 C inn out pre size u s Xq Yq n M w B v8 wx)
  case first =>
    have FR : Frs ([DiskA D s, BuA P b] ++ (RoadA X D P pre size u (n + 1) :: M)) := frs_dm D P s b FMH.out
    have S0 : ∀ vw, Gr w1 vw → vw.cell? ⟨X, 0, none⟩ = some (.pointer (some ⟨D, 0, none⟩)) ∧ vw.cell? ⟨X, 1, none⟩ = some (.pointer (some ⟨P, 0, none⟩)) ∧ vw.cell? ⟨X, 3, none⟩ = some (.int .i64 size) ∧ vw.cell? ⟨X, 4, none⟩ = some (.bool u) := fun vw g => by
      obtain ⟨_, q, _⟩ := part_at (L := [DiskA D s, BuA P b] ++ (RoadA X D P pre size u (n + 1) :: M)) 2 rfl (stars_gr FR H1.out g)
      obtain ⟨c0, c1, _, c3, c4, _⟩ := road_at q
      exact ⟨c0, c1, c3, c4⟩
    have CM := Lib.hid (fun (vw : World) (g : Gr w1 vw) => (MG.out vw B1 (stars_gr FR H1.out g)).mono fun e w' (hh : XsMerged D P s0 b0 C inn out size u s Xq Yq nm (RoadA X D P pre size u (n + 1) :: M) vw B1 e w') => (show MidGot X D P s0 b0 C inn out pre nm size u s Xq Yq n M w1 B1 vw e w' from by
      obtain ⟨s1, b1, k, c, er, he, hres, hcl, B', hst, nx⟩ := hh
      obtain ⟨_, q, _⟩ := part_at (L := [DiskA D s1, BuA P b1] ++ (RoadA X D P pre size u (n + 1) :: M)) 2 rfl hst
      obtain ⟨c0, c1, _, c3, c4, _⟩ := road_at q
      have hlow := (fr_stars FR).lo H1.out
      refine ⟨s1, b1, k, c, er, B', he, ⟨?_, hcl, hst, (Nx.gr g).trans nx, fun x hx1 hx2 => ⟨fun hb => ?_, ?_⟩⟩, lt_of_block q.1, c0, c1, c3, c4⟩
      · rcases hres with ⟨h0, hm, _⟩ | hr
        · exact .inl ⟨h0, hm⟩
        · exact .inr hr
      · rcases nx.new x hb with h3 | h3
        · have := hlow x h3; omega
        · omega
      · exact nx.only.block x hx2 fun h3 => by have := hlow x h3; omega))
    have KS := Lib.hid S0
    have gU := Gr.refl w1
    have gUd : Gr w1 w1.drew := Below.drew gU
    have CA := Lib.hid (CM.out _ gUd)
    have CB := Lib.hid ((CM.out _ (gr_drew (gr_al (.cells #[.int .i64 0, .int .u32 0] 37) gU))).mono fun e w' ⟨s1, b1, k, c, er, B', he, hst, hXl, hks⟩ => (show MidGotB X D P s0 b0 C inn out pre nm size u s Xq Yq n M w1 B1 _ e w' from ⟨s1, b1, k, c, er, B', he, hst, hXl, one_cells (hst.2.2.2.2 w1.heap.size (Nat.le_refl _) (lt_al1 w1 _)).2 (new_al1 w1 _ _), hks⟩))
    have hXne : X ≠ w1.heap.size := by
      obtain ⟨_, q, _⟩ := part_at (L := [DiskA D s, BuA P b] ++ (RoadA X D P pre size u (n + 1) :: M)) 2 rfl H1.out
      have := lt_of_block q.1
      omega
    clear S0 FR MG CL CM
    go_region_held3 (fun w' => w'.cell? ⟨X, 0, none⟩ = some (.pointer (some ⟨D, 0, none⟩)) ∧ w'.cell? ⟨X, 1, none⟩ = some (.pointer (some ⟨P, 0, none⟩)) ∧ w'.cell? ⟨X, 3, none⟩ = some (.int .i64 size) ∧ w'.cell? ⟨X, 4, none⟩ = some (.bool u)) (first | exact KS.out _ gUd | assumption | (refine KS.out _ ?_; (repeat (first | assumption | exact Gr.refl _ | refine gr_drew ?_ | refine gr_al _ ?_)); done) | exact rd_keep hks hXl _ | exact rd_keep2 hks hXl hXne _ _ _ _ | go_keep)
      ((go_at_call 99; (first
        | ((with_reducible refine CA.out.mono ?_); rintro e t2 ⟨s1, b1, k, c, er, B2, rfl, hst, hXl, hks⟩)
        | ((with_reducible refine CB.out.mono ?_); rintro e t2 ⟨s1, b1, k, c, er, B2, rfl, hst, hXl, ⟨y0, y1, y2, y3, y4⟩, hks⟩))))
    all_goals
      go_wp2_with fail
      go_meet
    · obtain ⟨hres, hcl, hsta, nx, _⟩ := hst
      exact ⟨s1, b1, er, B2, rfl, by rw [HNM.out]; exact hres, hcl, stars_gr (frs_dm D P s1 b1 FMH.out) hsta (gral17 _ _), (N1.out.trans nx).trans (Nx.gr (gral17 _ _))⟩
    · obtain ⟨hres, hcl, hsta, nx, hnb⟩ := hst
      have hnx := (hnb w1.heap.size (Nat.le_refl _) (lt_al1 w1 _)).1
      have o : Only (fun k => k = w1.heap.size) t2 ((t2.setCell ⟨w1.heap.size, 0, none⟩ (.int .i64 k)).setCell ⟨w1.heap.size, 1, none⟩ (.int .u32 c)) := (Only.cell1 _ _ _ _).trans (Only.cell1 _ _ _ _)
      exact ⟨s1, b1, er, B2, rfl, by rw [HNM.out]; exact hres, hcl, stars_only (frs_dm D P s1 b1 FMH.out) hsta o (fun b hb e => hnx (e ▸ hb)), ⟨(N1.out.trans nx).only.andThen o (fun i e => .inr (by rw [e]; exact N1.out.only.size)), (N1.out.trans nx).new⟩⟩
  obtain ⟨s1, b1, er, B2, rfl, hres, hcl, h2, n2⟩ := hcut
  rcases hres with ⟨rfl, hm⟩ | ⟨hne, hSR⟩
  · have CLH := Lib.hid (CL.out s1 b1 wc B2 (by rw [← HNM.out]; exact hm) hcl h2)
    obtain ⟨_, q, _⟩ := part_at (L := [DiskA D s1, BuA P b1] ++ (RoadA X D P pre size u (n + 1) :: M)) 2 rfl h2
    obtain ⟨c0, _⟩ := road_at q
    have N2 := Lib.hid n2
    have HCL := Lib.hid hcl
    clear h2 n2 hm q MG CL H1 N1 hcl
    go_wp2_with fail
    refine CLH.out.mono ?_; rintro e w3 ⟨s2, er, rfl, hres, hc2, B3, h3, n3⟩
    have FIN := Lib.hid (show OneGot X D P s0 b0 C inn out pre size u L s Xq Yq n M w B (.returned (.tuple #[.string nm, .int .i64 er])) w3 from ⟨s2, b1, nm, er, B3, rfl, by
      rcases hres with ⟨h0, hj⟩ | hr
      · exact .inl ⟨h0, HNM.out.symm, by rw [HNM.out]; exact hj⟩
      · exact .inr hr, by have := HCL.out; omega, h3, N2.out.trans n3⟩)
    clear hres hc2 h3 n3 CLH
    go_wp2_with fail
    go_ret2
    exact FIN.out
  · have FIN := Lib.hid (show OneGot X D P s0 b0 C inn out pre size u L s Xq Yq n M w B (.returned (.tuple #[.string ⟨#[]⟩, .int .i64 er])) wc from ⟨s1, b1, ⟨#[]⟩, er, B2, rfl, .inr ⟨hne, hSR⟩, by omega, h2, n2⟩)
    have hne' : (er != 0) = true := by simpa using hne
    clear hSR hcl h2 n2 MG CL H1 N1
    go_wp2_with fail
    go_ret2
    exact FIN.out
end Go.Proofs.YtjplkmmhjfpdaaaGreatDoor
/- The program's form: runs, their names gathered; at least one file. -/
namespace Go.Proofs.YtjplkmmhjfpdaaaGreatDoor
open Go.RowKit FsPlain CrcPlain OctPlain FramePlain RecPlain RdPlain RnPlain WrPlain XsPlain
set_option linter.unusedVariables false
set_option linter.unusedSimpArgs false
set_option maxRecDepth 20000
namespace XsPlain
theorem XsJ.base {s0 : St} {b0 : Bu} {C out : ByteArray} {size : Int} {u : Bool} {L : List ByteArray} {s : St} {b : Bu} {W : Wq} (hok : s0.ok) (h : XsJ s0.call b0 C out size u L s b W) : XsJ s0 b0 C out size u L s b W :=
  ⟨hok, fun n hn => by have := h.free n hn; rwa [(quiet_call s0).get] at this, h.file, h.ok, h.now, h.bm, h.nd, h.way, h.has, h.none, (off_call _ s0).trans h.off, h.fix, h.all, h.few, h.wl⟩
theorem xs_form2 {s0 s1 : St} {b0 b1 : Bu} {C inn out wo : ByteArray} {size k er : Int} {u : Bool} (hok1 : s1.ok) (h16 : 16 ≤ b0.m - b0.now) (hw : ∀ i : Nat, isB (nameN wo (i : Int)).data.toList out.data.toList = true) (he : er ≠ 0) (hR : FormR s0.call b0 C inn wo size (b0.m - b0.now - 8) u s1 b1 k er) : SortR s0 b0 C inn out size u s1 b1 0 0 er := by
  have hcl : s0.call.calls = s0.calls + 1 := rfl
  refine xs_err he hok1 hR.now hR.bm (by have := hR.calls; omega) ((off_call _ s0).trans ((off_form hR.rest).more fun n ⟨i, e⟩ => .inr (by rw [e]; exact hw i))) (fun k => by omega) (fun L hL _ => ?_) (fun L hL _ a1 a2 a3 a4 => ?_)
  · rcases hR.code L hL (by omega) (by omega) with k | k | k
    · exact absurd k he
    · exact .inl k
    · exact .inr k
  · obtain ⟨q1, q2⟩ := (quiet_call s0).calm a1.1 a1.2
    exact he (hR.calm L hL (by omega) (by omega) q1 q2 a2 (by show s0.fs.length ≤ 50; omega) (by show (FsPlain.used s0.fs : Int) + _ ≤ s0.room; omega)).1
theorem Names18.call {s : St} {inn out : ByteArray} (h : Names18 s inn out) : Names18 s.call inn out := ⟨h.ri, h.ro, h.ne, h.nw, fun n hn => by rw [(quiet_call s).get]; exact h.free n hn⟩
end XsPlain
theorem row_one (w : World) (r : ByteArray) : RowA (.slice (some ⟨w.heap.size, 0, none⟩) 1 1) [r] (w.alloc (.cells #[.string r] 9)) (fun b => b = w.heap.size) := by
  refine ⟨⟨rfl, .inr ⟨w.heap.size, 1, #[.string r], rfl, Nat.zero_le _, heap_alloc_new w _, Nat.le_refl _, by unfold maxLen; omega, rfl, rfl⟩⟩, fun b hb => ?_, fun b hb => ?_⟩
  · simp only [Value.ownBlock, Option.some.injEq] at hb; exact hb.symm
  · rw [hb, World.size_alloc]; exact Nat.lt_succ_self _
def FoGot18 (X D P : Nat) (s0 : St) (b0 : Bu) (C inn out pre : ByteArray) (size : Int) (u : Bool) (M : List Asn) (w : World) (B : Nat → Prop) (e : Ending) (w' : World) : Prop :=
  ∃ s' b' n' B', ((∃ va vn vc L W, e = .returned (.tuple #[.slice va vn vc, .int .i64 0]) ∧ XsJ s0 b0 C out size u L s' b' W ∧ 1 ≤ W.length ∧ n' + W.length ≤ 700 ∧ (∀ p ∈ W, ∃ i : Nat, i < n' ∧ p.1 = nameN pre (i : Int)) ∧ s'.calls ≤ s0.calls + 3000000 ∧ stars ([DiskA D s', BuA P b'] ++ (RoadA X D P pre size u n' :: RowA (.slice va vn vc) (W.map (·.1)) :: M)) w' B') ∨ (∃ er, e = .returned (.tuple #[.slice none 0 0, .int .i64 er]) ∧ er ≠ 0 ∧ SortR s0 b0 C inn out size u s' b' 0 0 er ∧ stars ([DiskA D s', BuA P b'] ++ (RoadA X D P pre size u n' :: M)) w' B')) ∧ Nx B w B' w'
def GaAt18 (X D P : Nat) (pre : ByteArray) (size : Int) (u : Bool) (s1 : St) (b1 : Bu) (T : List (List ByteArray)) (M : List Asn) (w : World) (B : Nat → Prop) (vf vi : Value) (wr : World) : Prop :=
  ∃ j va vc B', j ≤ T.length ∧ vi = .int .i64 (j : Int) ∧ vf = .slice va j vc ∧ stars ([DiskA D s1, BuA P b1] ++ (RoadA X D P pre size u j :: RowA (.slice va j vc) (((runsW pre T).map (·.1)).take j) :: M)) wr B' ∧ Nx B w B' wr
theorem runsW_at {pre : ByteArray} {T : List (List ByteArray)} {j : Nat} (h : j < T.length) : ((runsW pre T).map (·.1)).take (j + 1) = ((runsW pre T).map (·.1)).take j ++ [nameN pre (j : Int)] := by
  have hl : ((runsW pre T).map (·.1))[j]? = some (nameN pre (j : Int)) := by
    unfold runsW
    rw [List.map_map, List.getElem?_map, List.getElem?_range h]
    rfl
  rw [List.take_add_one, hl]; rfl
theorem runsW_len (pre : ByteArray) (T : List (List ByteArray)) : (runsW pre T).length = T.length := by unfold runsW; simp
set_option maxHeartbeats 8000000 in
theorem form_road_c {X D P : Nat} {s0 : St} {b0 : Bu} {C inn out pre : ByteArray} {size m : Int} {u : Bool} (hpre : PreN out pre) (hz : I64 size) (hC : HasD s0 inn.data.toList C) (hCz : C.size ≤ 5000) (hN : Names18 s0 inn out) (hc : s0.calls ≤ 999999) (h16 : 16 ≤ b0.m - b0.now) (hm : b0.m - b0.now - 8 = m) (hmI : I64 m) (hc0 : 0 ≤ s0.calls) {w : World} {B : Nat → Prop} {M : List Asn} (hM : Frs M) (hT : TabB w B) (h : stars ([DiskA D s0.call, BuA P b0] ++ (RoadA X D P pre size u 0 :: M)) w B) (hok : s0.ok) :
    Calls Tryz.prog 42 #[.pointer (some ⟨X, 0, none⟩), .string inn, .int .i64 m] w (FoGot18 X D P s0 b0 C inn out pre size u M w B) := by
  have hcl : s0.call.calls = s0.calls + 1 := rfl
  have FM : Frs (RoadA X D P pre size u 0 :: M) := ⟨fr_road _ _ _ _ _ _ _, hM⟩
  have FR : Frs ([DiskA D s0.call, BuA P b0] ++ (RoadA X D P pre size u 0 :: M)) := frs_dm D P s0.call b0 FM
  have hC1 : HasD s0.call inn.data.toList C := hC.quiet (quiet_call s0)
  have FO := Lib.hid (fun (v : World) (g : Gr w v) => form18_c hz hmI u hC1 hCz hN.ri.2 hN.ri.1 (pre_size hpre hN.ro.2) (names_pre hN.call hpre) (by omega) FM (hT.nx (Nx.gr g)) (stars_gr FR h g))
  have KS := Lib.hid (fun (v : World) (g : Gr w v) => (by
    obtain ⟨_, q, _⟩ := part_at (L := [DiskA D s0.call, BuA P b0] ++ (RoadA X D P pre size u 0 :: M)) 2 rfl (stars_gr FR h g)
    obtain ⟨c0, c1, c2, c3, c4, _⟩ := road_at q
    exact ⟨c0, c1, c2, c3, c4⟩ : v.cell? ⟨X, 0, none⟩ = some (.pointer (some ⟨D, 0, none⟩)) ∧ v.cell? ⟨X, 1, none⟩ = some (.pointer (some ⟨P, 0, none⟩)) ∧ v.cell? ⟨X, 2, none⟩ = some (.string pre) ∧ v.cell? ⟨X, 3, none⟩ = some (.int .i64 size) ∧ v.cell? ⟨X, 4, none⟩ = some (.bool u)))
  have CF := Lib.hid (fun (v : World) (g : Gr w v) => (FO.out v g).mono fun e w' (hh : FormGotM D P s0.call b0 C inn pre size m u (RoadA X D P pre size u 0 :: M) v B e w') => (show ∃ s1 b1 k er, e = .returned (.tuple #[.int .i64 k, .int .i64 er]) ∧ (FormR s0.call b0 C inn pre size m u s1 b1 k er ∧ ∃ B', stars ([DiskA D s1, BuA P b1] ++ (RoadA X D P pre size u 0 :: M)) w' B' ∧ Nx B w B' w') ∧ w'.cell? ⟨X, 0, none⟩ = some (.pointer (some ⟨D, 0, none⟩)) ∧ w'.cell? ⟨X, 1, none⟩ = some (.pointer (some ⟨P, 0, none⟩)) ∧ w'.cell? ⟨X, 2, none⟩ = some (.string pre) ∧ w'.cell? ⟨X, 3, none⟩ = some (.int .i64 size) ∧ w'.cell? ⟨X, 4, none⟩ = some (.bool u) from by
    obtain ⟨s1, b1, k, er, he, hF, B', hst, nx⟩ := hh
    obtain ⟨_, q, _⟩ := part_at (L := [DiskA D s1, BuA P b1] ++ (RoadA X D P pre size u 0 :: M)) 2 rfl hst
    obtain ⟨c0, c1, c2, c3, c4, _⟩ := road_at q
    exact ⟨s1, b1, k, er, he, ⟨hF, B', hst, (Nx.gr g).trans nx⟩, c0, c1, c2, c3, c4⟩))
  have K := Lib.hid (show PreN out pre ∧ I64 size ∧ C.size ≤ 5000 ∧ Names18 s0 inn out ∧ s0.calls ≤ 999999 ∧ 16 ≤ b0.m - b0.now ∧ b0.m - b0.now - 8 = m ∧ 0 ≤ s0.calls ∧ Frs M ∧ TabB w B ∧ s0.ok from ⟨hpre, hz, hCz, hN, hc, h16, hm, hc0, hM, hT, hok⟩)
  have gU := Gr.refl w
  have gUd : Gr w w.drew := Below.drew gU
  clear hpre hz hC hCz hN hc h16 hm hmI hc0 hM hT h hok FM FR hC1 hcl FO
  go_enter Tryz.func42, Tryz.ntmps42
  go_wp2_with fail
  go_region_held3 (fun w' => w'.cell? ⟨X, 0, none⟩ = some (.pointer (some ⟨D, 0, none⟩)) ∧ w'.cell? ⟨X, 1, none⟩ = some (.pointer (some ⟨P, 0, none⟩)) ∧ w'.cell? ⟨X, 2, none⟩ = some (.string pre) ∧ w'.cell? ⟨X, 3, none⟩ = some (.int .i64 size) ∧ w'.cell? ⟨X, 4, none⟩ = some (.bool u)) (first | exact KS.out _ gUd | assumption | go_keep)
    ((go_at_call 67; (with_reducible refine (CF.out _ gUd).mono ?_); rintro e w1 ⟨s1, b1, k, er, rfl, hst, hks⟩))
  obtain ⟨hF, B1, h1, n1⟩ := hst
  clear hks CF KS
  have hok1 : s1.ok := by
    obtain ⟨_, hd, _⟩ := part_at 0 rfl h1
    exact hd.1
  by_cases he : er = 0
  · subst he
    obtain ⟨L, T, hk, hJ, hTL, hT0, hTm, hLC⟩ := XsJ.start (s0 := s0.call) (out := out) (ok_call K.out.2.2.2.2.2.2.2.2.2.2) K.out.2.2.2.1.call.free hok1 (by have := K.out.2.2.2.2.2.2.1; have := K.out.2.2.2.2.2.1; omega) K.out.2.2.1 (fun i => pre_is K.out.1 i) (fun i hi => pre_right K.out.1 K.out.2.2.2.1.ro.1 K.out.2.2.2.1.ro.2 (i := i) (by omega)) hF
    have hJ0 := hJ.base K.out.2.2.2.2.2.2.2.2.2.2
    have hsz := lay_le hJ0.file.1
    have hC6 : C.size = (layL size L).length := by rw [← hJ0.file.2]; rfl
    have hLs : (L.length : Int) * 1 ≤ L.length * size := Int.mul_le_mul_of_nonneg_left hsz.2.1 (by omega)
    have hL25 : L.length ≤ 2500 := by have := K.out.2.2.1; omega
    have hm8 : 8 ≤ m.toNat := by have := K.out.2.2.2.2.2.2.1; have := K.out.2.2.2.2.2.1; omega
    have hT320 : T.length ≤ 320 := by
      refine Classical.byContradiction fun hq => ?_
      have h1 : 321 * m.toNat ≤ T.length * m.toNat := Nat.mul_le_mul_right _ (by omega)
      omega
    have hFc := hF.calls
    subst hk
    obtain ⟨t, ht⟩ : ∃ t, T.length = t := ⟨_, rfl⟩
    have hl := runsW_len pre T
    have ST := Lib.hid (show GaAt18 X D P pre size u s1 b1 T M w B (.slice none 0 0) (.int .i64 0) w1 from by
      obtain ⟨B2, k2, n2⟩ := part_new (P := RowA (.slice none 0 0) []) (B' := fun _ => False) (L := [DiskA D s1, BuA P b1] ++ (RoadA X D P pre size u 0 :: M)) (frs_dm D P s1 b1 ⟨fr_road _ _ _ _ _ _ _, K.out.2.2.2.2.2.2.2.2.1⟩) h1 (Gr.refl _) (row_nil w1) (fun b hb => hb.elim)
      exact ⟨0, none, 0, B2, Nat.zero_le _, rfl, rfl, stars_perm (List.perm_middle (l₁ := [DiskA D s1, BuA P b1, RoadA X D P pre size u 0])).symm k2, n1.trans n2⟩)
    have HJ := Lib.hid (show XsJ s0 b0 C out size u L s1 b1 (runsW pre T) ∧ T.length = t ∧ (T = [] → L = []) ∧ t ≤ 320 ∧ s1.calls ≤ s0.calls + 1 + 1000000 from ⟨hJ0, ht, hT0, by omega, by have : s0.call.calls = s0.calls + 1 := rfl; omega⟩)
    have htI : (t : Int) ≤ 320 := by omega
    rw [ht]
    clear hF h1 n1 hok1 hJ hTL hT0 hTm hLC hJ0 hsz hC6 hLs hL25 hm8 hT320 hFc hl ht
    obtain ⟨i0, hi0⟩ : ∃ i, Tryz.prog.info? 9 = some i ∧ (i.zero, i.size, i.bytes) = (some (.string ⟨#[]⟩), 1, 16) := by
      have := infoS
      rw [Option.map_eq_some_iff] at this
      obtain ⟨i, h1, h2⟩ := this
      exact ⟨i, h1, h2⟩
    obtain ⟨hi', hz'⟩ := hi0
    simp only [Prod.mk.injEq] at hz'
    obtain ⟨hz0, hz1, hz2⟩ := hz'
    go_wp2_with fail
    go_loopw [10, 42] (fun vf vi wx => GaAt18 X D P pre size u s1 b1 T M w B vf vi wx) (fun _ vi _ => t - (intOf vi).toNat)
    case atStart => exact ST.out
    case round =>
      clear ST
      obtain ⟨j, va, vc, B2, hj, rfl, rfl, h2, n2⟩ := hrel
      have hjt : j ≤ t := by have := HJ.out.2.1; omega
      have hjI : (j : Int) ≤ 320 := by omega
      have FMR : Frs (RoadA X D P pre size u j :: RowA (.slice va j vc) (((runsW pre T).map (·.1)).take j) :: M) := ⟨fr_road _ _ _ _ _ _ _, fr_row _ _, K.out.2.2.2.2.2.2.2.2.1⟩
      by_cases hlt : j < t
      · have hltI : (j : Int) < (t : Int) := by omega
        have hTx : Tab wr := (K.out.2.2.2.2.2.2.2.2.2.1.nx n2).tab
        have hpz := pre_size K.out.1 K.out.2.2.2.1.ro.2
        have NX := Lib.hid (does_at (L := [DiskA D s1, BuA P b1] ++ (RoadA X D P pre size u j :: RowA (.slice va j vc) (((runsW pre T).map (·.1)).take j) :: M)) (Q := RoadA X D P pre size u (j + 1)) 2 rfl (frs_dm D P s1 b1 FMR) h2 fun Bx q => next18_c (by omega) (by omega) hTx q)
        have hsn := runsW_at (pre := pre) (T := T) (j := j) (by have := HJ.out.2.1; omega)
        have hll : (((runsW pre T).map (·.1)).take j).length = j := by rw [List.length_take, List.length_map, runsW_len]; omega
        obtain ⟨l, hl⟩ : ∃ l, ((runsW pre T).map (·.1)).take j = l := ⟨_, rfl⟩
        rw [hl] at NX hsn hll
        obtain ⟨nm, hnm⟩ : ∃ nm, nameN pre (j : Int) = nm := ⟨_, rfl⟩
        rw [hnm] at NX hsn
        have HSN := Lib.hid hsn
        have HLL := Lib.hid hll
        have N2 := Lib.hid n2
        clear h2 n2 FMR hTx hpz hsn hll hl hnm hj
        go_wp2_with fail
        refine NX.out.mono ?_; rintro e x2 ⟨rfl, B3, h3, n3⟩
        have H3 := Lib.hid (show stars ([DiskA D s1, BuA P b1] ++ (RoadA X D P pre size u (j + 1) :: RowA (.slice va j vc) l :: M)) x2 B3 from h3)
        have N3 := Lib.hid (N2.out.trans n3)
        have OW := Lib.hid (show x2.ownsRow 0 9 1 (.slice va j vc) j (strs l) from by
          obtain ⟨_, hb, _⟩ := part_at 3 rfl H3.out
          have := hb.1
          rwa [HLL.out] at this)
        clear h3 n3 NX
        go_wp2_with (first
          | (at_builtin; refine wpList_append_own_at _ rfl _ _ 22 rfl 0 9 i0 (.string ⟨#[]⟩) 1 16 Tryz.underlying22 hi' hz0 hz1 hz2 rfl (by decide) (.slice va j vc) j (strs l) rfl (OW.out.alloc _) ⟨x2.heap.size, 0, none⟩ 1 1 [.string nm] rfl rfl (cell_one_new _ _ _) (by simp [Value.oneCell']) (by unfold maxLen; omega) (by omega) (Nat.zero_le _) ?_)
          | fail)
        intro v5 w5 ho5 hg5 _ ha5
        obtain ⟨B5, h5, n5⟩ := step_at (w' := w5) (Q := RowA v5 (l ++ [nm])) 3 rfl (show Frs ([DiskA D s1, BuA P b1] ++ (RoadA X D P pre size u (j + 1) :: RowA (.slice va j vc) l :: M)) from frs_dm D P s1 b1 ⟨fr_road _ _ _ _ _ _ _, fr_row _ _, K.out.2.2.2.2.2.2.2.2.1⟩) H3.out fun B1 h1 => row_app h1 ((Gr.refl x2).alloc (Nat.le_refl _) (.cells #[.string nm] 9)) (by rw [HLL.out]; exact ho5) hg5 (by rw [World.size_alloc]; exact ha5)
        have hsh : ∃ s5 c5, v5 = .slice s5 (j + 1) c5 := by
          rcases ho5.2 with ⟨e1, e2⟩ | ⟨g, cap, cur, e1, _⟩
          · exact absurd e2 (by omega)
          · exact ⟨_, cap, e1⟩
        obtain ⟨s5, c5, rfl⟩ := hsh
        have FIN := Lib.hid (show GaAt18 X D P pre size u s1 b1 T M w B (.slice s5 (j + 1) c5) (.int .i64 ((j : Int) + 1)) w5 from ⟨j + 1, s5, c5, B5, by have := HJ.out.2.1; omega, rfl, rfl, by rw [HSN.out]; exact h5, N3.out.trans n5⟩)
        clear ho5 hg5 ha5 h5 n5 H3 OW
        go_wp2_with fail
        refine ⟨FIN.out, ?_⟩
        simp [intOf]; omega
      · obtain rfl : j = t := by omega
        have hta : ((runsW pre T).map (·.1)).take j = (runsW pre T).map (·.1) := List.take_of_length_le (by rw [List.length_map, runsW_len]; have := HJ.out.2.1; omega)
        rw [hta] at h2 FMR
        by_cases h0 : 0 < j
        · have h0I : (0 : Int) < (j : Int) := by omega
          have FIN := Lib.hid (show FoGot18 X D P s0 b0 C inn out pre size u M w B (.returned (.tuple #[.slice va j vc, .int .i64 0])) wr from ⟨s1, b1, j, B2, .inl ⟨va, j, vc, L, runsW pre T, rfl, HJ.out.1, by rw [runsW_len]; have := HJ.out.2.1; omega, by rw [runsW_len]; have := HJ.out.2.1; have := HJ.out.2.2.2.1; omega, fun p hp => by
            obtain ⟨i, hi, _, e⟩ := runsW_mem hp
            exact ⟨i, by have := HJ.out.2.1; omega, e⟩, by have := HJ.out.2.2.2.2; omega, h2⟩, n2⟩)
          clear h2 n2 FMR hta
          go_wp2_with fail
          go_ret2
          exact FIN.out
        · obtain rfl : j = 0 := by omega
          have hTn : T = [] := List.eq_nil_of_length_eq_zero HJ.out.2.1
          have hJn : XsJ s0 b0 C out size u L s1 b1 (([] : Wq) ++ []) := by
            have := HJ.out.1
            rw [hTn] at this
            exact this
          obtain ⟨B3, h3, n3⟩ := stars_drop (P := RowA (.slice va 0 vc) ((runsW pre T).map (·.1))) (L := [DiskA D s1, BuA P b1, RoadA X D P pre size u 0] ++ M) (stars_perm (List.perm_middle (l₁ := [DiskA D s1, BuA P b1, RoadA X D P pre size u 0])) h2)
          have ON := Lib.hid (one18_c (inn := inn) (n := 0) hJn K.out.1 ⟨K.out.2.2.2.1.ro.1, K.out.2.2.2.1.ro.2⟩ (fun p hp => by simp at hp) (by omega) K.out.2.1 K.out.2.2.1 (.inr rfl) (by simp) K.out.2.2.2.2.2.1 (by simp; have := K.out.2.2.2.2.2.1; omega) K.out.2.2.2.2.2.2.2.1 (by have := HJ.out.2.2.2.2; omega) (by have := HJ.out.2.2.2.2; have := K.out.2.2.2.2.1; omega) (v := .slice none 0 0) (w := wr) (B := B3) K.out.2.2.2.2.2.2.2.2.1 (K.out.2.2.2.2.2.2.2.2.2.1.nx (n2.trans n3)) (fun wr B' _ => ⟨none, 0, rfl, Nat.zero_le _, .inl rfl⟩) h3)
          have N3 := Lib.hid (n2.trans n3)
          clear h2 n2 h3 n3 FMR hta hJn hTn
          go_wp2_with fail
          refine ON.out.mono ?_; rintro e x2 ⟨s2, b2, nm, er, B4, rfl, hres, hc4, h4, n4⟩
          rcases hres with ⟨rfl, rfl, hJ4⟩ | ⟨hne, hSR⟩
          · have hlen : ∀ p ∈ ([] : Wq) ++ [(nameN pre ((0 : Nat) : Int), sortT (([] : Wq).map (·.2)).flatten u)], ∃ i : Nat, i < 0 + 1 ∧ p.1 = nameN pre (i : Int) := fun p hp => by
              simp only [List.nil_append, List.mem_singleton] at hp
              exact ⟨0, by omega, by rw [hp]⟩
            have FIN := Lib.hid (show ∀ x3, x3 = x2.alloc (.cells #[.string (nameN pre ((0 : Nat) : Int))] 9) → FoGot18 X D P s0 b0 C inn out pre size u M w B (.returned (.tuple #[.slice (some ⟨x2.heap.size, 0, none⟩) 1 1, .int .i64 0])) x3 from fun x3 ex => by
              subst ex
              obtain ⟨B5, h5, n5⟩ := part_new (P := RowA (.slice (some ⟨x2.heap.size, 0, none⟩) 1 1) [nameN pre ((0 : Nat) : Int)]) (B' := fun b => b = x2.heap.size) (L := [DiskA D s2, BuA P b2] ++ (RoadA X D P pre size u (0 + 1) :: M)) (frs_dm D P s2 b2 ⟨fr_road _ _ _ _ _ _ _, K.out.2.2.2.2.2.2.2.2.1⟩) h4 (gral17 _ _) (row_one x2 _) (fun b hb => by rw [hb]; exact Nat.le_refl _)
              exact ⟨s2, b2, 0 + 1, B5, .inl ⟨_, 1, 1, L, _, rfl, hJ4, by simp, by simp, hlen, by have := HJ.out.2.2.2.2; omega, stars_perm (List.perm_middle (l₁ := [DiskA D s2, BuA P b2, RoadA X D P pre size u (0 + 1)])).symm h5⟩, (N3.out.trans n4).trans n5⟩)
            clear hJ4 hc4 h4 n4 ON hlen
            go_wp2_with fail
            go_ret2
            exact FIN.out _ rfl
          · have FIN := Lib.hid (show FoGot18 X D P s0 b0 C inn out pre size u M w B (.returned (.tuple #[.slice none 0 0, .int .i64 er])) x2 from ⟨s2, b2, 0 + 1, B4, .inr ⟨er, rfl, hne, hSR, h4⟩, N3.out.trans n4⟩)
            have hne' : (er != 0) = true := by simpa using hne
            clear hSR hc4 h4 n4 ON
            go_wp2_with fail
            go_ret2
            exact FIN.out
  · have FIN := Lib.hid (show FoGot18 X D P s0 b0 C inn out pre size u M w B (.returned (.tuple #[.slice none 0 0, .int .i64 er])) w1 from ⟨s1, b1, 0, B1, .inr ⟨er, rfl, he, xs_form2 hok1 K.out.2.2.2.2.2.1 (fun i => pre_is K.out.1 i) he (by rw [K.out.2.2.2.2.2.2.1]; exact hF), h1⟩, n1⟩)
    have hne' : (er != 0) = true := by simpa using he
    clear hF h1 n1 hok1
    go_wp2_with fail
    go_ret2
    exact FIN.out
end Go.Proofs.YtjplkmmhjfpdaaaGreatDoor
