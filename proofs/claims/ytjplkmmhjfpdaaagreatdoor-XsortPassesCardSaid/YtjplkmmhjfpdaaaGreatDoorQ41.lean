/- In one text: XsTold, Told2, ChunkF, Marks. -/
import Derived.Test.YtjplkmmhjfpdaaaGreatDoorQ40
import Derived.Test.YtjplkmmhjfpdaaaGreatDoorQ15
import Derived.Test.YtjplkmmhjfpdaaaGreatDoorQ09
import Derived.RangeFuncLeaves
import Derived.OwnWalkIn
import Derived.Maps.AppendAt
/- The program's told and arrive: the last file's end is read; it gets its name. -/
namespace Go.Proofs.YtjplkmmhjfpdaaaGreatDoor
open Go.RowKit FsPlain CrcPlain OctPlain FramePlain RecPlain RdPlain RnPlain WrPlain XsPlain
set_option linter.unusedVariables false
set_option linter.unusedSimpArgs false
set_option maxRecDepth 20000
theorem info_results {fn : Func} {p u : Tmp} (hfn : fn.results = #[.cell p 37, .tmp u]) {tmps : Array Value} {o : Nat} {k c er : Int} {w : World} (hp : tmps.getD p undef = .pointer (some ⟨o, 0, none⟩)) (hu : tmps.getD u undef = .int .i64 er) (c0 : w.cell? ⟨o, 0, none⟩ = some (.int .i64 k)) (c1 : w.cell? ⟨o, 1, none⟩ = some (.int .u32 c)) :
    (results fn tmps).run Tryz.prog w = .ok (.tuple #[.agg #[.int .i64 k, .int .u32 c], .int .i64 er]) w := by
  rw [results_cell_tmp hfn, hp, hu]
  simp [go_sem, c0, c1]
def ToldGot18 (D P : Nat) (s0 : St) (b0 : Bu) (C inn out : ByteArray) (size : Int) (u : Bool) (L : List ByteArray) (s : St) (b : Bu) (o : ByteArray) (l : List ByteArray) (M : List Asn) (w : World) (B : Nat → Prop) (e : Ending) (w' : World) : Prop :=
  ∃ s' k c er, e = .returned (.tuple #[.agg #[.int .i64 k, .int .u32 c], .int .i64 er]) ∧ ((er = 0 ∧ k = (l.length : Nat) ∧ c = (sumN l : Nat) ∧ XsJ s0 b0 C out size u L s' b [(o, l)]) ∨ (er ≠ 0 ∧ k = 0 ∧ c = 0 ∧ SortR s0 b0 C inn out size u s' b 0 0 er)) ∧ s'.calls ≤ s.calls + 2 ∧ ∃ B', stars ([DiskA D s', BuA P b] ++ M) w' B' ∧ Nx B w B' w'
set_option maxHeartbeats 4000000 in
theorem told18_c {X D P : Nat} {pre : ByteArray} {n : Nat} {s0 : St} {b0 : Bu} {C inn out : ByteArray} {size : Int} {u : Bool} {L : List ByteArray} {s : St} {b : Bu} {o : ByteArray} {l : List ByteArray} (hJ : XsJ s0 b0 C out size u L s b [(o, l)]) (hCz : C.size ≤ 5000) (h16 : 16 ≤ b0.m - b0.now) (hcs : s.calls ≤ s0.calls + 940000000) (hc : s.calls ≤ 940000000) {w : World} {B : Nat → Prop} {M : List Asn} (hM : Frs M) (h : stars ([DiskA D s, BuA P b] ++ (RoadA X D P pre size u n :: M)) w B) :
    Calls Tryz.prog 46 #[.pointer (some ⟨X, 0, none⟩), .string o] w (ToldGot18 D P s0 b0 C inn out size u L s b o l (RoadA X D P pre size u n :: M) w B) := by
  have hM0 := hM
  replace hM : Frs (RoadA X D P pre size u n :: M) := ⟨fr_road _ _ _ _ _ _ _, hM0⟩
  obtain ⟨RM, hRM⟩ : ∃ RM, RoadA X D P pre size u n :: M = RM := ⟨_, rfl⟩
  have RC := Lib.hid (show ∀ (d1 : St) (v : World) (B' : Nat → Prop), stars ([DiskA D d1, BuA P b] ++ (Blk w.heap.size zInfo 37 :: RM)) v B' → v.cell? ⟨X, 0, none⟩ = some (.pointer (some ⟨D, 0, none⟩)) from fun d1 v B' q => by
    rw [← hRM] at q
    obtain ⟨_, r, _⟩ := part_at (L := [DiskA D d1, BuA P b] ++ (Blk w.heap.size zInfo 37 :: RoadA X D P pre size u n :: M)) 3 rfl q
    exact (road_at r).1)
  rw [hRM] at hM h ⊢
  clear hM0 hRM
  obtain ⟨BW, kW, nW⟩ : ∃ B', stars ([DiskA D s, BuA P b] ++ (Blk w.heap.size zInfo 37 :: RM)) (w.alloc (.cells #[.int .i64 0, .int .u32 0] 37)) B' ∧ Nx B w B' (w.alloc (.cells #[.int .i64 0, .int .u32 0] 37)) := by
    obtain ⟨B3, k3, n3⟩ := part_new (P := Blk w.heap.size zInfo 37) (B' := fun b => b = w.heap.size) (L := [DiskA D s, BuA P b] ++ RM) (frs_app (frs_db17 D P s b) hM) h (gral17 w (.cells #[.int .i64 0, .int .u32 0] 37)) ⟨heap_alloc_new w _, fun _ => Iff.rfl⟩ (fun b hb => by rw [hb]; exact Nat.le_refl _)
    exact ⟨B3, stars_perm (perm_in [] [DiskA D s, BuA P b] RM _).symm k3, n3⟩
  have FM : Frs (Blk w.heap.size zInfo 37 :: RM) := ⟨fr_blk _ _ _, hM⟩
  have SZ := Lib.hid (xs_size_c (inn := inn) hJ h16 (by omega) (by omega) FM kW)
  have RE := Lib.hid (fun (v : World) (B2 : Nat → Prop) (q : stars ([DiskA D s.call, BuA P b] ++ (Blk w.heap.size zInfo 37 :: RM)) v B2) => xs_read_c (inn := inn) hJ.call hCz h16 (by show s.calls + 1 ≤ _; omega) (by show s.calls + 1 ≤ _; omega) FM q)
  have hl5 : l.length ≤ 5000 := by
    have h1 : l.length ≤ (([(o, l)] : Wq).map (·.2)).flatten.length := flat_ge (W := [(o, l)]) (p := (o, l)) (by simp)
    have h2 := hJ.few
    have h3 := hJ.small.1
    omega
  have GE := Lib.hid (fun (v : World) => end18_c (size := size) (l := l) (by omega) v)
  have J2 := Lib.hid hJ.call.call
  have HM := Lib.hid hM
  have NW := Lib.hid nW
  have hsm : ((layL size l).length : Int) ≤ 5000 := by have h1 : (layL size l).length ≤ C.size := hJ.small.2 (o, l) (by simp); omega
  have hsm2 : (17 : Int) ≤ ((layL size l).length : Int) := by have := (lay_end (show layB size l = true from (hJ.fix (o, l) (by simp)).2)).1; omega
  obtain ⟨n, hn⟩ : ∃ n : Int, ((layL size l).length : Int) = n := ⟨_, rfl⟩
  rw [hn] at SZ RE hsm hsm2
  obtain ⟨es, hes⟩ : ∃ es, cl (endS l.length (sumN l)) = es := ⟨_, rfl⟩
  rw [hes] at RE GE
  obtain ⟨sn, hsn⟩ : ∃ sn, sumN l = sn := ⟨_, rfl⟩
  rw [hsn] at GE
  obtain ⟨ln, hln⟩ : ∃ ln, l.length = ln := ⟨_, rfl⟩
  rw [hln] at GE hl5
  have HE := Lib.hid (show sumN l = sn ∧ l.length = ln from ⟨hsn, hln⟩)
  have x0 := RC.out _ _ _ kW
  clear hJ h kW nW FM hn hes hsn hln hM
  go_enter Tryz.func46, Tryz.ntmps46
  go_wp2_with fail
  refine SZ.out.mono ?_
  rintro e w1 ⟨(rfl | ⟨rfl, hS⟩), B1, h1, n1⟩
  · have x1 := RC.out _ _ _ h1
    have H1 := Lib.hid h1
    have N1 := Lib.hid (NW.out.trans n1)
    clear h1 n1 SZ x0
    go_wp2_with fail
    refine (RE.out _ _ H1.out).mono ?_
    rintro e w2 ⟨(rfl | ⟨rfl, hS⟩), B2, h2, n2⟩
    · have H2 := Lib.hid h2
      have N2 := Lib.hid (N1.out.trans n2)
      clear h2 n2 RE
      clear x1
      go_wp2_with fail
      refine (GE.out _).mono ?_
      rintro e w3 ⟨rfl, g3⟩
      have FRS : Frs ([DiskA D s.call.call, BuA P b] ++ (Blk w.heap.size zInfo 37 :: RM)) := frs_dm D P s.call.call b ⟨fr_blk _ _ _, HM.out⟩
      have g4 : Gr w2 (w3.alloc (.cells #[.int .i64 (ln : Int), .int .u32 (sn : Int)] 37)) := g3.trans (gral17 w3 _)
      have h4 := stars_gr FRS H2.out g4
      have y0 : (w3.alloc (.cells #[.int .i64 (ln : Int), .int .u32 (sn : Int)] 37)).cell? ⟨w3.heap.size, 0, none⟩ = some (.int .i64 (ln : Int)) := by rw [World.cell?_alloc_mark]; rfl
      have y1 : (w3.alloc (.cells #[.int .i64 (ln : Int), .int .u32 (sn : Int)] 37)).cell? ⟨w3.heap.size, 1, none⟩ = some (.int .u32 (sn : Int)) := by rw [World.cell?_alloc_mark]; rfl
      obtain ⟨_, hb, _⟩ := part_at 2 rfl h4
      have c0 : (w3.alloc (.cells #[.int .i64 (ln : Int), .int .u32 (sn : Int)] 37)).cell? ⟨w.heap.size, 0, none⟩ = some (.int .i64 0) := by rw [cells_at hb.1]; rfl
      have c1 : (w3.alloc (.cells #[.int .i64 (ln : Int), .int .u32 (sn : Int)] 37)).cell? ⟨w.heap.size, 1, none⟩ = some (.int .u32 0) := by rw [cells_at hb.1]; rfl
      have f0 := cells_free hb.1 0
      have f1 := cells_free hb.1 1
      have hlb := lt_of_block hb.1
      have T3 := Lib.hid (info_set0 (k := (ln : Int)) (c := (sn : Int)) (fr_disk _ _) (fr_bu _ _) HM.out h4)
      have N4 := Lib.hid (N2.out.trans (Nx.gr g4))
      clear h4 g4 g3 hb FRS
      go_wp2_with fail
      obtain ⟨B5, h5, n5, d0, d1⟩ := T3.out
      obtain ⟨B6, h6, n6⟩ := drop_db h5
      exact bodyPost_ret (info_results rfl rfl rfl d0 d1) rfl ⟨s.call.call, ln, sn, 0, rfl, .inl ⟨rfl, by rw [HE.out.2], by rw [HE.out.1], J2.out⟩, by show s.calls + 1 + 1 ≤ _; omega, B6, h6, (N4.out.trans n5).trans n6⟩
    · obtain ⟨_, hb, _⟩ := part_at 2 rfl h2
      have c0 : w2.cell? ⟨w.heap.size, 0, none⟩ = some (.int .i64 0) := by rw [cells_at hb.1]; rfl
      have c1 : w2.cell? ⟨w.heap.size, 1, none⟩ = some (.int .u32 0) := by rw [cells_at hb.1]; rfl
      have f0 := cells_free hb.1 0
      have f1 := cells_free hb.1 1
      have hlb := lt_of_block hb.1
      have T3 := Lib.hid (info_set0 (k := 0) (c := 0) (fr_disk _ _) (fr_bu _ _) HM.out h2)
      have N2 := Lib.hid (N1.out.trans n2)
      have HS := Lib.hid hS
      clear h2 n2 hb RE hS
      go_wp2_with fail
      obtain ⟨B5, h5, n5, d0, d1⟩ := T3.out
      obtain ⟨B6, h6, n6⟩ := drop_db h5
      exact bodyPost_ret (info_results rfl rfl rfl d0 d1) rfl ⟨s.call.call, 0, 0, 5, rfl, .inr ⟨by decide, rfl, rfl, HS.out⟩, by show s.calls + 1 + 1 ≤ _; omega, B6, h6, (N2.out.trans n5).trans n6⟩
  · obtain ⟨_, hb, _⟩ := part_at 2 rfl h1
    have c0 : w1.cell? ⟨w.heap.size, 0, none⟩ = some (.int .i64 0) := by rw [cells_at hb.1]; rfl
    have c1 : w1.cell? ⟨w.heap.size, 1, none⟩ = some (.int .u32 0) := by rw [cells_at hb.1]; rfl
    have f0 := cells_free hb.1 0
    have f1 := cells_free hb.1 1
    have hlb := lt_of_block hb.1
    have T3 := Lib.hid (info_set0 (k := 0) (c := 0) (fr_disk _ _) (fr_bu _ _) HM.out h1)
    have N1 := Lib.hid (NW.out.trans n1)
    have HS := Lib.hid hS
    clear h1 n1 hb SZ hS
    go_wp2_with fail
    obtain ⟨B5, h5, n5, d0, d1⟩ := T3.out
    obtain ⟨B6, h6, n6⟩ := drop_db h5
    exact bodyPost_ret (info_results rfl rfl rfl d0 d1) rfl ⟨s.call, 0, 0, 5, rfl, .inr ⟨by decide, rfl, rfl, HS.out⟩, by show s.calls + 1 ≤ _; omega, B6, h6, (N1.out.trans n5).trans n6⟩
theorem arrive18_c {D P : Nat} {s0 : St} {b0 : Bu} {C inn out : ByteArray} {size : Int} {u : Bool} {L : List ByteArray} {s : St} {b : Bu} {o : ByteArray} {l : List ByteArray} (hJ : XsJ s0 b0 C out size u L s b [(o, l)]) (hN : Names18 s0 inn out) (h16 : 16 ≤ b0.m - b0.now) (hcs : s.calls ≤ s0.calls + 950000000) (hc : s.calls ≤ 950000000) {w : World} {B : Nat → Prop} {M : List Asn} (hM : Frs M) (h : stars ([DiskA D s, BuA P b] ++ M) w B) :
    Calls Tryz.prog 47 #[.pointer (some ⟨D, 0, none⟩), .string inn, .string o, .string out] w (XsRenamed D P s0 b0 C inn out size u s b l M w B) := by
  have RN := Lib.hid (xs_rename_c (inn := inn) hJ ⟨hN.ro.1, by have := hN.ro.2; omega⟩ h16 hcs hc hM h)
  have IS := Lib.hid (fun (v : World) => is18_c inn out (by have := hN.ri.2; omega) (by have := hN.ro.2; omega) v)
  rw [hN.nw] at IS
  have FR := Lib.hid (fun (s2 : St) => frs_dm D P s2 b hM)
  clear hJ hN h16 hcs hc hM h
  go_enter Tryz.func47, Tryz.ntmps47
  go_wp2_with fail
  refine RN.out.mono ?_; rintro e w1 ⟨s2, er, rfl, hres, B1, h1, n1⟩
  by_cases he : er = 0
  · subst he
    have G := Lib.hid (fun v (g : Gr w1 v) => (show XsRenamed D P s0 b0 C inn out size u s b l M w B (.returned (.int .i64 0)) v from ⟨s2, 0, rfl, hres, B1, stars_gr (FR.out s2) h1 g, n1.trans (Nx.gr g)⟩))
    clear hres h1 n1 RN
    go_wp2_with fail
    refine (IS.out _).mono ?_; rintro e w2 ⟨rfl, g⟩
    have FIN := Lib.hid (G.out _ g)
    clear g G
    go_wp2_with fail
    go_ret
    exact FIN.out
  · have G := Lib.hid (show XsRenamed D P s0 b0 C inn out size u s b l M w B (.returned (.int .i64 er)) w1 from ⟨s2, er, rfl, hres, B1, h1, n1⟩)
    have hne' : (er == 0) = false := by simpa using he
    clear hres h1 n1 RN he
    go_wp2_with fail
    go_ret
    exact G.out
end Go.Proofs.YtjplkmmhjfpdaaaGreatDoor
/- A range over a function whose rounds write whatever they own: what holds of a round knows the loop's own two blocks (l: its record, D: what is put off), and that they are left alone. Beside Told, where a round must leave every record alone. -/
namespace Go.Proofs.YtjplkmmhjfpdaaaGreatDoor
open Go.RowKit
set_option linter.unusedVariables false
set_option linter.unusedSimpArgs false
set_option maxRecDepth 20000
def ToldPost2 {α : Type} (l D : Nat) (Kp : World → World → Prop) (I : Nat → Nat → List α → World → Prop) (Ix : Nat → Nat → Code → List α → World → Prop) (xs : List α) (W : World) (e : Exit) (_ : Act) (W' : World) : Prop :=
  ∃ j, JumpOf e = some j ∧ (W'.heap[l]? = W.heap[l]? ∧ W'.heap[D]? = W.heap[D]?) ∧ (j = none → Kp W W' ∧ I l D xs W') ∧ (∀ c, j = some c → Ix l D c xs W')
section
variable {α : Type} {l D : Nat} {Kp : World → World → Prop} {I : Nat → Nat → List α → World → Prop} {Ix : Nat → Nat → Code → List α → World → Prop} {xs : List α} {W W' : World} {a : Act}
theorem told2_on (h1 : W'.heap[l]? = W.heap[l]? ∧ W'.heap[D]? = W.heap[D]?) (h2 : Kp W W') (h3 : I l D xs W') : ToldPost2 l D Kp I Ix xs W .normal a W' :=
  ⟨none, rfl, h1, fun _ => ⟨h2, h3⟩, fun c e => by cases e⟩
theorem told2_exit {id : Nat} (h1 : W'.heap[l]? = W.heap[l]? ∧ W'.heap[D]? = W.heap[D]?) (h3 : Ix l D (.exit id) xs W') : ToldPost2 l D Kp I Ix xs W (.exit id) a W' :=
  ⟨some (.exit id), rfl, h1, fun e => (by cases e), fun c e => by cases e; exact h3⟩
end
section
variable {α : Type} {n : Nat} {P : Program} {gf : Nat} {lb : Array Value} {encs : α → Array Value} {Pr : List α → α → Prop} {Kp : World → World → Prop} {S Sp : List α → Prop}
theorem told2_end {l D : Nat} {r : Loop} {I : List α → World → Prop} {Ix : Code → List α → World → Prop} {xs : List α} {W1 W3 : World} (hne : l ≠ D)
    (hI : ∀ s W o', I s W → (∃ r, W.heap[l]? = some (.loop r)) → I s (W.putObj l o')) (hIx : ∀ c s W o', Ix c s W → (∃ r, W.heap[l]? = some (.loop r)) → Ix c s (W.putObj l o')) (hKb : ∀ (W : World) (o o' : Obj), W.heap[l]? = some o → o.isCells = false → Kp W (W.putObj l o')) (hKt : ∀ {A B C : World}, Kp A B → Kp B C → Kp A C)
    (hl : LoopAt l D r W3) (j : Option Code) (h1 : j = none → Kp W1 W3 ∧ I xs W3) (h2 : ∀ c, j = some c → Ix c xs W3) :
    ∃ v w', (Instr.endRound l j).run P W3 = .ok v w' ∧ ((Ending.returned v = .returned (.bool true) ∧ (I xs w' ∧ LoopAt l D { r with state := .ready, pending := none } w') ∧ Kp W1 w') ∨
      (Ending.returned v = .returned (.bool false) ∧ ∃ c, Ix c xs w' ∧ LoopAt l D { r with state := .done, pending := some c } w')) := by
  refine ⟨_, _, run_endRound j hl.1, ?_⟩
  cases j with
  | none => exact .inl ⟨rfl, ⟨hI _ _ _ (h1 rfl).2 ⟨_, hl.1⟩, hl.turn hne _⟩, hKt (h1 rfl).1 (hKb _ _ _ hl.1 rfl)⟩
  | some c => exact .inr ⟨rfl, c, hIx _ _ _ _ (h2 c rfl) ⟨_, hl.1⟩, hl.turn hne _⟩
theorem wpIn_told2 {g : Operand} {ps : Array Tmp} {assign body : Code} {Q : Exit → Act → World → Prop} {a : Act} {w w0 : World}
    (h1 : 1 ≤ n) (hg : a.eval g = .func (.func gf) #[] lb) (eg : ∀ args w, (callFunc gf args).run P w = .ok (.enter gf args) w)
    (hseq : SeqTold (n - 1) P gf lb encs (fun pre x _ => Pr pre x) Kp S Sp w0) (hKt : ∀ {A B C : World}, Kp A B → Kp B C → Kp A C)
    (hKb : ∀ (W : World) (l : Nat) (o o' : Obj), w.heap.size ≤ l → W.heap[l]? = some o → o.isCells = false → Kp W (W.putObj l o'))
    (hb0 : Below w0.heap.size w0 w) (hps : ∀ x, (encs x).size = ps.size)
    (I : Nat → Nat → List α → World → Prop) (Ix : Nat → Nat → Code → List α → World → Prop)
    (hI : ∀ l D s W o', I l D s W → (∃ r, W.heap[l]? = some (.loop r)) → I l D s (W.putObj l o')) (hIg : ∀ l D s A B, I l D s A → Gr A B → I l D s B)
    (hIx : ∀ l D c s W o', Ix l D c s W → (∃ r, W.heap[l]? = some (.loop r)) → Ix l D c s (W.putObj l o'))
    (h0 : ∀ W1, Gr w W1 → W1.heap.size = w.heap.size + 2 → I (w.heap.size + 1) w.heap.size [] W1) (a₁ : α → Act)
    (hassign : ∀ (l : Nat) (x : α) (W : World) (K : Act → World → Prop), K (a₁ x) W →
      assign.wpIn (Fence.wide.inRound l) (n - 1 - 1) P (Exit.then K (fun _ _ _ => False)) { tmps := (ps.zip (encs x)).foldl (fun t (p, v) => t.setIfInBounds p v) a.tmps, defers := [] } W)
    (hbody : ∀ (l D : Nat) (pre : List α) (x : α) (W : World), l = w.heap.size + 1 → D = w.heap.size → I l D pre W → Pr pre x → body.wpIn (Fence.wide.inRound l) (n - 1 - 1) P (ToldPost2 l D Kp I Ix (pre ++ [x]) W) (a₁ x) W)
    (hdone : ∀ (l D : Nat) (xs : List α) (W : World), D = w.heap.size → S xs → I l D xs W → W.heap[D]? = some (.deferred (some [])) → Q .normal { a with defers := { target := .collected D, args := #[] } :: a.defers } W)
    (hstop : ∀ (l D : Nat) (c : Code) (pre : List α) (W : World), D = w.heap.size → Sp pre → Ix l D c pre W → W.heap[D]? = some (.deferred (some [])) → c.wpIn Fence.wide n P Q { a with defers := { target := .collected D, args := #[] } :: a.defers } W) :
    (Code.rangeFunc g ps assign body).wpIn Fence.wide n P Q a w := by
  refine wpIn_rangeFunc fun fn hfn => ?_
  obtain ⟨D, hD⟩ : ∃ D, D = w.heap.size := ⟨_, rfl⟩
  obtain ⟨l, hl⟩ : ∃ l, l = w.heap.size + 1 := ⟨_, rfl⟩
  have hne : l ≠ D := by omega
  obtain ⟨r, hr⟩ : ∃ r : Loop, r = { state := .ready, pending := none, fn, tmps := a.tmps, params := ps, assign, body, defers := w.heap.size } := ⟨_, rfl⟩
  obtain ⟨W1, hW1⟩ : ∃ W1, W1 = (w.alloc (.deferred (some []))).alloc (.loop r) := ⟨_, rfl⟩
  have hg1 : Gr w W1 := by rw [hW1]; exact ((Gr.refl w).alloc (Nat.le_refl _) _).alloc (by simp) _
  have hz1 : W1.heap.size = w.heap.size + 2 := by rw [hW1]; simp
  have hL1 : LoopAt l D r W1 := by
    rw [hW1, hl, hD]
    refine ⟨?_, (Below.heap_alloc _ _ _ (by simp)).trans (World.alloc_heap_new w _)⟩
    have := World.alloc_heap_new (w.alloc (.deferred (some []))) (.loop r)
    rwa [World.size_alloc] at this
  have hI0 := h0 W1 hg1 hz1
  rw [← hl, ← hD] at hI0
  refine ⟨l, [{ target := .collected w.heap.size, args := #[] }], W1, { target := .fn (.func gf) lb, args := #[.func (.yield l) #[] #[]] }, W1, gf, #[.func (.yield l) #[] #[]] ++ lb, W1, ?_, ?_, fun _ _ => trivial, ?_, fun _ => h1, ?_⟩
  · rw [hW1, hr, hl]; exact run_enterLoop_outer _ _ _ _ _
  · simp only [resolve, hg]; simp [go_sem]
  · simp [invoke, go_sem, eg]
  refine (hseq l (fun pre W => I l D pre W ∧ LoopAt l D r W) (fun pre W => ∃ c, Ix l D c pre W ∧ LoopAt l D { r with state := .done, pending := some c } W) W1
    (hb0.trans (Below.mono hg1 hb0.size)) (fun s A B hs g => ⟨hIg _ _ _ _ _ hs.1 g, hs.2.gr g⟩) ?_ ⟨hI0, hL1⟩).mono ?_
  · rintro pre x W ⟨hi, hla⟩ hx
    have hCl : w.heap.size ≤ l := by omega
    have hy := run_yield (P := P) (args := encs x) hla.1 (by rw [hr]; exact hps x)
    obtain ⟨W2, hW2⟩ : ∃ W2, W2 = W.putObj l (.loop { r with state := .busy }) := ⟨_, rfl⟩
    have hbeg : (Instr.beginRound l).run P W = .ok () W2 := by rw [hW2]; exact run_beginRound hla.1 (by rw [hr])
    have hl2 : LoopAt l D { r with state := .busy } W2 := by rw [hW2]; exact hla.turn hne _
    have hk2 : Kp W W2 := by rw [hW2]; exact hKb _ _ _ _ hCl hla.1 rfl
    have hi2 : I l D pre W2 := by rw [hW2]; exact hI _ _ _ _ _ hi ⟨_, hla.1⟩
    have hrt : r.tmps = a.tmps ∧ r.params = ps ∧ r.assign = assign ∧ r.body = body ∧ r.fn = fn := by rw [hr]; exact ⟨rfl, rfl, rfl, rfl, rfl⟩
    rw [hrt.1, hrt.2.1, hrt.2.2.1, hrt.2.2.2.1, hrt.2.2.2.2] at hy
    refine ⟨fn, _, assign, body, hy, roundIn_of_wpIn hfn (hassign _ x W _ ⟨W2, hbeg, ?_⟩)⟩
    refine wpIn_mono (hbody l D pre x W2 hl hD hi2 hx) ?_
    rintro e a3 W3 ⟨j, hj, hk3, hn, hc⟩
    have hend := told2_end (P := P) (W1 := W) (I := I l D) (Ix := Ix l D) hne (hI l D) (fun c s W o' => hIx l D c s W o') (fun W o o' h ho => hKb W l o o' hCl h ho) hKt (⟨hk3.1.trans hl2.1, hk3.2.trans hl2.2⟩ : LoopAt l D { r with state := .busy } W3) j (fun e => ⟨hKt hk2 (hn e).1, (hn e).2⟩) hc
    have hready : ({ ({ r with state := .busy } : Loop) with state := .ready, pending := none } : Loop) = r := by rw [hr]
    have hdn : ∀ c, ({ ({ r with state := .busy } : Loop) with state := .done, pending := some c } : Loop) = { r with state := .done, pending := some c } := fun c => rfl
    rw [hready] at hend
    cases e <;> simp only [JumpOf, Option.some.injEq, reduceCtorEq] at hj <;> subst hj <;> exact hend
  · subst hD
    rintro e W2 ⟨⟨v, rfl⟩, (⟨xs, hS, hi, hla⟩ | ⟨pre, hSp, c, hi, hla⟩)⟩
    · have hpe : r.pending = none := by rw [hr]
      have := run_endLoop (P := P) hla.1 (by rw [hr]; simp)
      rw [hpe] at this
      exact ⟨none, _, this, hdone l _ xs _ rfl hS (hI _ _ _ _ _ hi ⟨_, hla.1⟩) (hla.turn hne _).2⟩
    · have := run_endLoop (P := P) hla.1 (by simp)
      exact ⟨some c, _, this, hstop l _ c pre _ rfl hSp (hIx _ _ _ _ _ _ hi ⟨_, hla.1⟩) (hla.turn hne _).2⟩
end
end Go.Proofs.YtjplkmmhjfpdaaaGreatDoor
/- slices.Chunk of a slice of strings, by as many as may be: its call, and its iterator. -/
namespace Go.Proofs.YtjplkmmhjfpdaaaGreatDoor
open Go.RowKit Go.Shelf CrcPlain OctPlain FramePlain RecPlain
set_option linter.unusedVariables false
set_option linter.unusedSimpArgs false
set_option maxRecDepth 20000
attribute [local go_sem] Oper.semAt_some
theorem chunkf_c (a : Option Addr) (n c f : Nat) (hf : 1 ≤ f) (hf2 : f ≤ 1000000) (w : World) :
    Calls Tryz.prog 70 #[.slice a n c, .int .i64 (f : Int)] w fun e w' => e = .returned (.func (.func 100) #[] #[.pointer (some ⟨w.heap.size, 0, none⟩), .pointer (some ⟨w.heap.size + 1, 0, none⟩)]) ∧
      w' = (w.alloc (.cells #[.slice a n c] 22)).alloc (.cells #[.int .i64 (f : Int)] 3) := by
  have hmf : ∀ (fn : Fn) (first cap : Array Value) (w : World), (Instr.makeFunc fn first cap).run Tryz.prog w = .ok (.func fn first cap) w := fun _ _ _ _ => rfl
  have hfI : ¬ (f : Int) < 1 := by omega
  have hfb : (f : Int) ≤ 1000000 := by omega
  go_enter Tryz.func70, Tryz.ntmps70
  go_wp2_with fail
  go_ret
  exact ⟨rfl, rfl⟩
def partV (b off n f j : Nat) : Value := .slice (some ⟨b, off + f * j, none⟩) (min f (n - f * j)) (min f (n - f * j))
def ChunkAtF (a : Option Addr) (n c f Bs Bn : Nat) (J : List Nat → World → Prop) (i : Value) (wr : World) : Prop :=
  ∃ k : Nat, f * k < n + f ∧ i = .int .i64 ((f * k : Nat) : Int) ∧ J (List.range k) wr ∧ wr.heap[Bs]? = some (.cells #[.slice a n c] 22 (0, 0)) ∧ wr.heap[Bn]? = some (.cells #[.int .i64 (f : Int)] 3 (0, 0))
theorem chunk_count {n f k : Nat} (hf : 1 ≤ f) (h1 : n ≤ f * k) (h2 : f * k < n + f) : (n + f - 1) / f = k := by
  refine Nat.div_eq_of_lt_le ?_ ?_
  · rw [Nat.mul_comm]; omega
  · rw [Nat.add_mul, Nat.one_mul, Nat.mul_comm k f]; omega
set_option maxRecDepth 100000 in
set_option maxHeartbeats 2000000 in
theorem chunkf1_c (m : Nat) (hm : 1 ≤ m) (l b off n c f Bs Bn : Nat) (hf : 1 ≤ f) (hf2 : f ≤ 1000000) (hn : n ≤ 1000000) (hnc : n ≤ c) (J Jx : List Nat → World → Prop) (hJ : ∀ s A B, J s A → Gr A B → J s B)
    (hY : ∀ pre x W1, J pre W1 → (pre = List.range x ∧ f * x < n) → YieldAt Fence.wide (m - 1) Tryz.prog l #[partV b off n f x] W1 fun e W' =>
      (e = .returned (.bool true) ∧ J (pre ++ [x]) W' ∧ ChunkKeep Bs Bn W1 W') ∨ (e = .returned (.bool false) ∧ Jx (pre ++ [x]) W'))
    (W : World) (hs : W.heap[Bs]? = some (.cells #[.slice (some ⟨b, off, none⟩) n c] 22 (0, 0))) (h4 : W.heap[Bn]? = some (.cells #[.int .i64 (f : Int)] 3 (0, 0))) (h0 : J [] W) :
    CallsIn Fence.wide m Tryz.prog 100 #[.func (.yield l) #[] #[], .pointer (some ⟨Bs, 0, none⟩), .pointer (some ⟨Bn, 0, none⟩)] W fun e W' => (∃ v, e = .returned v) ∧
      ((∃ xs, xs = List.range ((n + f - 1) / f) ∧ J xs W') ∨ (∃ pre, (∃ k, k ≤ (n + f - 1) / f ∧ pre = List.range k) ∧ Jx pre W')) := by
  refine callsIn_of_wp Tryz.func100 rfl trivial ?_ rfl
  simp only [Tryz.ntmps100, List.size_toArray, List.length_cons, List.length_nil, Nat.reduceAdd, Nat.reduceSub, Array.replicate_succ, Array.replicate_zero, List.push_toArray, List.append_toArray, List.nil_append, List.cons_append]
  have hfI : (f : Int) ≤ 1000000 := by omega
  have hf1I : (1 : Int) ≤ (f : Int) := by omega
  gi_wp2
  gi_loopw [4] (fun i wr => ChunkAtF (some ⟨b, off, none⟩) n c f Bs Bn J i wr) (fun i _ => n + f - (intOf i).toNat)
  case atStart => exact ⟨0, by omega, rfl, h0, hs, h4⟩
  case round =>
    clear h0 hs h4
    obtain ⟨k, hk, rfl, hj, hs, h4⟩ := hrel
    have c1 : wr.cell? ⟨Bs, 0, none⟩ = some (.slice (some ⟨b, off, none⟩) n c) := by simp [World.cell?, hs]
    have c2 : wr.cell? ⟨Bn, 0, none⟩ = some (.int .i64 (f : Int)) := by simp [World.cell?, h4]
    obtain ⟨i, hi⟩ : ∃ i, i = f * k := ⟨_, rfl⟩
    rw [← hi] at hk ⊢
    have HI := Lib.hid hi
    have HS := Lib.hid hs
    have H4 := Lib.hid h4
    clear hs h4 hi
    have hiI : (i : Int) ≤ 2000000 := by omega
    by_cases hlt : i < n
    · have hr1 := from_run b off n c i hlt hnc
      obtain ⟨e, he⟩ : ∃ e, e = min f (n - i) := ⟨_, rfl⟩
      have he1 : 1 ≤ e ∧ i + e ≤ n := by omega
      have hr2 := full_run b off n c i e he1.1 he1.2 hnc
      have hmin : min (f : Int) ((n - i : Nat) : Int) = (e : Int) := by omega
      have hv : partV b off n f k = .slice (some ⟨b, off + i, none⟩) e e := by unfold partV; rw [HI.out] at *; rw [← he]
      have HE := Lib.hid he
      obtain ⟨fn, tmps, assign, body, hy, hR⟩ := hY _ k wr.drew (hJ _ _ _ hj (Gr.refl wr).drew) ⟨rfl, by have := HI.out; omega⟩
      rw [hv] at hy
      have HJ := Lib.hid hJ
      clear he hv hY hJ hj
      gi_wp2
      gi_region
      gi_wp2
      refine hR.mono ?_
      rintro e2 W3 (⟨rfl, hJ3, hk3⟩ | ⟨rfl, hJx3⟩)
      · have s3 : W3.heap[Bs]? = some (.cells #[.slice (some ⟨b, off, none⟩) n c] 22 (0, 0)) := hk3.2.1.trans HS.out
        have s4 : W3.heap[Bn]? = some (.cells #[.int .i64 (f : Int)] 3 (0, 0)) := hk3.2.2.trans H4.out
        have c3 : W3.cell? ⟨Bn, 0, none⟩ = some (.int .i64 (f : Int)) := by simp [World.cell?, s4]
        have S3 := Lib.hid s3
        have S4 := Lib.hid s4
        have J3 := Lib.hid hJ3
        clear s3 s4 hk3 hJ3
        gi_wp2
        go_roundw
        case rel =>
          refine ⟨k + 1, by have := HI.out; rw [Nat.mul_add, Nat.mul_one]; omega, by have := HI.out; congr 1; rw [Nat.mul_add, Nat.mul_one]; omega, ?_, S3.out, S4.out⟩
          rw [List.range_succ]; exact J3.out
        case measure => simp [intOf]; omega
      · gi_wp2
        refine bodyPost_ret (results_none rfl _ _ _) rfl ?_
        refine ⟨⟨_, rfl⟩, .inr ⟨_, ⟨k + 1, ?_, ?_⟩, hJx3⟩⟩
        · have := HI.out
          rw [Nat.le_div_iff_mul_le (by omega), Nat.add_mul, Nat.one_mul, Nat.mul_comm]
          omega
        · rw [List.range_succ]
    · have hq : (n + f - 1) / f = k := chunk_count hf (by have := HI.out; omega) (by have := HI.out; omega)
      have HQ := Lib.hid hq
      clear hq hY hJ
      gi_wp2
      go_end0
      exact ⟨⟨_, rfl⟩, .inl ⟨_, by rw [HQ.out], hj⟩⟩
theorem chunkf_told {n : Nat} (hn1 : 1 ≤ n) {w : World} {b off c f Bs Bn t : Nat} (hf : 1 ≤ f) (hf2 : f ≤ 1000000) (hl : t ≤ 1000000) (hc : t ≤ c)
    (hs : w.heap[Bs]? = some (.cells #[.slice (some ⟨b, off, none⟩) t c] 22 (0, 0))) (h4 : w.heap[Bn]? = some (.cells #[.int .i64 (f : Int)] 3 (0, 0))) :
    SeqTold n Tryz.prog 100 #[.pointer (some ⟨Bs, 0, none⟩), .pointer (some ⟨Bn, 0, none⟩)] (fun j => #[partV b off t f j]) (fun pre j _ => pre = List.range j ∧ f * j < t) (ChunkKeep Bs Bn)
      (fun xs => xs = List.range ((t + f - 1) / f)) (fun pre => ∃ k, k ≤ (t + f - 1) / f ∧ pre = List.range k) w := by
  intro l J Jx W hW hJ hY h0
  exact chunkf1_c n hn1 l b off t c f Bs Bn hf hf2 hl hc J Jx hJ hY W (blk_gr hs hW) (blk_gr h4 hW) h0
end Go.Proofs.YtjplkmmhjfpdaaaGreatDoor
/- Marks of ranges over functions among what a frame puts off: their blocks as parts; a frame that leaves; append inside a fence, and where the new row lies. -/
namespace Go.Proofs.YtjplkmmhjfpdaaaGreatDoor
open Go.RowKit
set_option linter.unusedVariables false
set_option linter.unusedSimpArgs false
set_option maxRecDepth 20000
theorem wpListIn_append_own_at {F : Fence} {n : Nat} {P : Program} (w : World) {ops : Array Oper} {rest : List Oper} {o : Oper} {a : Act} {Q : Exit → Act → World → Prop}
    (hg : o.guard = none) (s x : Operand) (t : TypeId) (hop : o.op = Op.call { callee := Callee.builtin Builtin.append, args := #[s, x], argTypes := #[t, t] })
    (base : Nat) (e : TypeId) (i : TypeInfo) (z : Value) (size bytes : Nat) (h1 : P.underlying t = some (.slice e)) (h2 : P.info? e = some i) (h3 : i.zero = some z) (h4 : i.size = size) (h5 : i.bytes = bytes) (h6 : z.cells.size = size) (h7 : 0 < size)
    (v : Value) (k : Nat) (xs : List Value) (hs : a.eval s = v) (hown : w.ownsRow base e size v k xs) (ad : Addr) (m c : Nat) (news : List Value) (hx : a.eval x = .slice (some ad) m c) (hn : news.length = m * size)
    (hc : ∀ j u, news[j]? = some u → w.cell? (ad.add j) = some u) (h1c : ∀ u ∈ news, u.oneCell' = true) (b1 : k + m ≤ maxLen) (b2 : (k + m) * bytes ≤ 140737488355328) (b3 : base ≤ w.heap.size)
    (hK : ∀ v' w', w'.ownsRow base e size v' (k + m) (xs ++ news) → w.grownBy w' v.ownBlock → (v' = .slice none 0 0 ↔ v = .slice none 0 0 ∧ m = 0) → (v'.ownBlock = v.ownBlock ∨ v'.ownBlock = some w.heap.size) → wpListIn F n P ops Q rest (a.put o.dst v') w') :
    wpListIn F n P ops Q (o :: rest) a w := by
  refine wpListIn_plain hg fun K hK' => ?_
  obtain ⟨v', w', hrun, r1, r2, r3, r4⟩ := run_append_own_at (P := P) w base t o.type e i z size bytes h1 h2 h3 h4 h5 h6 h7 v k xs hown ad m c news hn hc h1c b1 b2 b3
  unfold Oper.wpIn
  refine ⟨?_, ?_⟩
  · simp [Oper.about, hop, resolve, Target.leads, Sem.run_pure]
  · rw [Oper.semAt_plain F _ _ (by rw [hop]; intro c hc'; cases hc')]
    simp [execOp, hop, resolve, invoke, builtin, hs, hx, hrun, Result.andThen]
    exact hK' _ _ (hK v' w' r1 r2 r3 r4)
def DefB (D : Nat) : Asn := fun w B => w.heap[D]? = some (.deferred (some [])) ∧ ∀ b, B b ↔ b = D
theorem fr_def (D : Nat) : Fr (DefB D) where
  fr := fun ⟨h, e⟩ o d => ⟨by rw [o.block D (Array.getElem?_eq_some_iff.1 h).1 (d D ((e D).2 rfl))]; exact h, e⟩
  lo := fun ⟨h, e⟩ b hb => by rw [(e b).1 hb]; exact (Array.getElem?_eq_some_iff.1 h).1
def defsA (Ds : List Nat) : List Asn := Ds.map DefB
theorem frs_defs : ∀ {Ds : List Nat} {M : List Asn}, Frs M → Frs (defsA Ds ++ M)
  | [], _, h => h
  | D :: Ds, M, h => ⟨fr_def D, frs_defs (Ds := Ds) h⟩
def markD (D : Nat) : Deferred := { target := .collected D, args := #[] }
theorem only_mark (w : World) (l : Nat) (o : Obj) : Only (fun k => k = l) w (w.putObj l o) := Only.grown (grownBy_putObj' w l o) fun k e => by cases e; rfl
theorem stars_put {L : List Asn} (hF : Frs L) {w : World} {B : Nat → Prop} (h : stars L w B) {l : Nat} (hl : ¬ B l) (o : Obj) : stars L (w.putObj l o) B := (fr_stars hF).fr h (only_mark w l o) fun b hb e => hl (e ▸ hb)
theorem Nx.put {B B' : Nat → Prop} {w w' : World} (n : Nx B w B' w') {l : Nat} (hl : w.heap.size ≤ l) (o : Obj) : Nx B w B' (w'.putObj l o) := ⟨n.only.andThen (only_mark w' l o) fun i e => .inr (by rw [e]; exact hl), n.new⟩
theorem leaves_marks {P : Program} {n : Nat} {fn : Func} {tmps : Array Value} {R : Ending → World → Prop} {v : Value} {L : List Asn} (hL : Frs L) (hres : ∀ w, (results fn tmps).run P w = .ok v w) :
    ∀ (Ds : List Nat) (w : World) (B : Nat → Prop), stars (defsA Ds ++ L) w B → (∀ w' B', stars L w' B' → Nx B w B' w' → R (.returned v) w') → LeavesInM Fence.wide n P fn tmps R (Ds.map markD) .returning w
  | [], w, B, h, k => ⟨v, hres w, k w B h (Nx.refl _ _)⟩
  | D :: Ds, w, B, h, k => by
    obtain ⟨B1, B2, hd, hr, ap, eq⟩ := h
    refine ⟨by simp, .inl ⟨D, _, rfl, run_takeDeferred hd.1, ?_⟩⟩
    have hB1 : ∀ b, B1 b ↔ b = D := hd.2
    have hst : stars (defsA Ds ++ L) (w.putObj D (.deferred none)) B2 := stars_put (frs_defs hL) hr (fun k2 => ap D ((hB1 D).2 rfl) k2) _
    refine leaves_marks hL hres Ds _ B2 hst fun w' B' h' n' => k w' B' h' ?_
    have n1 : Nx B w B2 (w.putObj D (.deferred none)) := ⟨(only_mark w D _).mono fun i e => (eq i).2 (.inl ((hB1 i).2 e)), fun b hb => .inl ((eq b).2 (.inr hb))⟩
    exact n1.trans n'
theorem def_new {L : List Asn} {w : World} {B : Nat → Prop} (h : stars L w B) {D : Nat} (hD : ¬ B D) (hd : w.heap[D]? = some (.deferred (some []))) : stars (DefB D :: L) w (fun b => b = D ∨ B b) :=
  ⟨fun b => b = D, B, ⟨hd, fun _ => Iff.rfl⟩, h, fun b e hb => hD (e ▸ hb), fun _ => Iff.rfl⟩
end Go.Proofs.YtjplkmmhjfpdaaaGreatDoor
