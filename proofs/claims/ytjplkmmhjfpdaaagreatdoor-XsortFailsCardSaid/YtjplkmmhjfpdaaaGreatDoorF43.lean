/- In one text: XsJoin. -/
import Derived.Test.YtjplkmmhjfpdaaaGreatDoorF42
/- The program's join: files become fewer, round by round, till there is one. -/
namespace Go.Proofs.YtjplkmmhjfpdaaaGreatDoor
open Go.RowKit FsPlain CrcPlain OctPlain FramePlain RecPlain RdPlain RnPlain WrPlain XsPlain
set_option linter.unusedVariables false
set_option linter.unusedSimpArgs false
set_option maxRecDepth 20000
attribute [local go_sem] Oper.semAt_some
theorem row_part {g n c f k : Nat} {l : List ByteArray} {w : World} {B : Nat → Prop} (h : RowA (.slice (some ⟨g, 0, none⟩) n c) l w B) (hn : l.length = n) (hk : f * k < n) : Lies w (partV g 0 n f k) ((l.drop (f * k)).take f) := by
  have hlen : ((l.drop (f * k)).take f).length = min f (n - f * k) := by rw [List.length_take, List.length_drop, hn]
  have hb : g < w.heap.size := (h.2.2 g (h.2.1 g rfl))
  have hv : Value.slice (some ⟨g, 0, none⟩) n c = .slice (some ⟨g, 0, none⟩) l.length c := by rw [hn]
  refine ⟨some ⟨g, 0 + f * k, none⟩, min f (n - f * k), by rw [hlen]; rfl, by rw [hlen]; exact Nat.le_refl _, .inr ⟨g, 0 + f * k, rfl, hb, fun j r hr => ?_⟩⟩
  have hj : l[f * k + j]? = some r := by
    rw [List.getElem?_take] at hr
    split at hr
    · rwa [List.getElem?_drop] at hr
    · cases hr
  have := (rowE_at h hv (j := f * k + j) (x := .string r) (by unfold strs; rw [List.getElem?_map, hj]; rfl)).1
  rwa [show 0 + f * k + j = f * k + j by omega]
theorem perm_jo (a b c d e f : Asn) (M : List Asn) : (f :: e :: ([a, b] ++ (c :: d :: M))).Perm ([a, b] ++ (c :: d :: e :: f :: M)) := (List.Perm.swap _ _ _).trans ((List.perm_append_comm (l₁ := [e, f]) (l₂ := [a, b, c, d])).append_right M)
theorem perm_ji (a b c r f : Asn) (M : List Asn) : (r :: f :: ([a, b] ++ (c :: M))).Perm ([a, b] ++ (c :: r :: f :: M)) := (List.perm_append_comm (l₁ := [r, f]) (l₂ := [a, b, c])).append_right M
theorem perm_jx (a b c r f v : Asn) (M : List Asn) : ([a, b] ++ (c :: r :: f :: v :: M)).Perm (f :: v :: ([a, b] ++ (c :: r :: M))) := (List.perm_append_comm (l₁ := [a, b, c, r]) (l₂ := [f, v])).append_right M
theorem perm_jy (a b c r f v : Asn) (M : List Asn) : ([a, b] ++ (c :: r :: f :: v :: M)).Perm (r :: f :: v :: ([a, b] ++ (c :: M))) := (List.perm_append_comm (l₁ := [a, b, c]) (l₂ := [r, f, v])).append_right M
theorem perm_jd (a b c d e f g : Asn) (M : List Asn) : (g :: ([a, b] ++ (c :: d :: e :: f :: M))).Perm ([a, b] ++ (c :: d :: e :: f :: g :: M)) := (List.perm_middle (l₁ := [a, b, c, d, e, f])).symm
theorem perm_je (a b c e f g : Asn) (M : List Asn) : (g :: ([a, b] ++ (c :: e :: f :: M))).Perm ([a, b] ++ (c :: e :: f :: g :: M)) := (List.perm_middle (l₁ := [a, b, c, e, f])).symm
theorem perm_jz (a b c e f : Asn) (M : List Asn) : ([a, b] ++ (c :: e :: f :: M)).Perm (e :: f :: ([a, b] ++ (c :: M))) := (List.perm_append_comm (l₁ := [a, b, c]) (l₂ := [e, f])).append_right M
theorem half_le {n most : Nat} (hn : 2 ≤ n) (hm : 3 ≤ most) : 1 ≤ (n + most - 1) / most ∧ 2 * ((n + most - 1) / most) ≤ n := by
  have h1 : (n + most - 1) / most ≤ (n + 2) / 3 := by
    have e : n + most - 1 = (n - 1) + most := by omega
    rw [e, Nat.add_div_right _ (by omega)]
    have h2 : (n - 1) / most ≤ (n - 1) / 3 := Nat.div_le_div_left hm (by decide)
    omega
  have h2 : 1 ≤ (n + most - 1) / most := (Nat.one_le_div_iff (by omega)).2 (by omega)
  omega
theorem all_cut {n f : Nat} (hf : 1 ≤ f) : n ≤ f * ((n + f - 1) / f) := by
  have h1 := Nat.div_add_mod (n + f - 1) f
  have h2 := Nat.mod_lt (n + f - 1) (show 0 < f by omega)
  omega
abbrev rbA (Rb X : Nat) : Asn := Blk Rb #[.pointer (some ⟨X, 0, none⟩)] 79
abbrev eA (E : Nat) (er : Int) : Asn := Blk E #[.int .i64 er] 28
structure JoQ (s0 : St) (b0 : Bu) (C out pre : ByteArray) (size : Int) (u : Bool) (L : List ByteArray) (n : Nat) (s : St) (b : Bu) (W : Wq) : Prop where
  j : XsJ s0 b0 C out size u L s b W
  nm : ∀ p ∈ W, ∃ i : Nat, i < n ∧ p.1 = nameN pre (i : Int)
  calls : s.calls ≤ s0.calls + 3000000 + 1000064 * (n : Int)
def JoAt (X D P : Nat) (s0 : St) (b0 : Bu) (C out pre : ByteArray) (size : Int) (u : Bool) (L : List ByteArray) (Rb E : Nat) (M : List Asn) (w : World) (B : Nat → Prop) (g : Nat) (v1 : Value) (ds : List Deferred) (wr : World) : Prop :=
  ∃ va vn vc n s b W B' Ds, ds = Ds.map markD ∧ v1 = .slice va vn vc ∧ W.length = vn ∧ vn = g ∧ 1 ≤ vn ∧ n + vn ≤ 700 ∧ JoQ s0 b0 C out pre size u L n s b W ∧ stars ([DiskA D s, BuA P b] ++ (RoadA X D P pre size u n :: RowA (.slice va vn vc) (W.map (·.1)) :: rbA Rb X :: eA E 0 :: (defsA Ds ++ M))) wr B' ∧ Nx B w B' wr
def JiAt (X D P : Nat) (s0 : St) (b0 : Bu) (C out pre : ByteArray) (size : Int) (u : Bool) (L : List ByteArray) (f Rb E Fb : Nat) (vw : Value) (W0 : Wq) (n0 : Nat) (Ds : List Nat) (M : List Asn) (w : World) (B : Nat → Prop) (Bs Bn l Dd : Nat) (xs : List Nat) (W : World) : Prop :=
  ∃ s b sa sc Wn B', JoQ s0 b0 C out pre size u L (n0 + xs.length) s b (W0.drop (f * xs.length) ++ Wn) ∧ Wn.length = xs.length ∧ stars ([DiskA D s, BuA P b] ++ (RoadA X D P pre size u (n0 + xs.length) :: RowA (.slice sa xs.length sc) (Wn.map (·.1)) :: Blk Fb #[.slice sa xs.length sc] 22 :: RowA vw (W0.map (·.1)) :: rbA Rb X :: eA E 0 :: (defsA Ds ++ M))) W B' ∧ Nx B w B' W ∧ (¬ B' l ∧ ¬ B' Dd ∧ ¬ B' Bs ∧ ¬ B' Bn) ∧ (l < W.heap.size ∧ Dd < W.heap.size ∧ Bs < W.heap.size ∧ Bn < W.heap.size) ∧ w.heap.size ≤ l ∧ w.heap.size ≤ Dd
def JxAt (X D P : Nat) (s0 : St) (b0 : Bu) (C inn out pre : ByteArray) (size : Int) (u : Bool) (Rb E : Nat) (Ds : List Nat) (M : List Asn) (w : World) (B : Nat → Prop) (l Dd : Nat) (c : Code) (xs : List Nat) (W : World) : Prop :=
  c = .exit 0 ∧ ∃ s b n er B', er ≠ 0 ∧ SortR s0 b0 C inn out size u s b 0 0 er ∧ stars ([DiskA D s, BuA P b] ++ (RoadA X D P pre size u n :: rbA Rb X :: eA E er :: (defsA Ds ++ M))) W B' ∧ Nx B w B' W ∧ ¬ B' l ∧ ¬ B' Dd ∧ w.heap.size ≤ l ∧ w.heap.size ≤ Dd
theorem ji_put {X D P : Nat} {s0 : St} {b0 : Bu} {C out pre : ByteArray} {size : Int} {u : Bool} {L : List ByteArray} {f Rb E Fb : Nat} {vw : Value} {W0 : Wq} {n0 : Nat} {Ds : List Nat} {M : List Asn} {w : World} {B : Nat → Prop} {Bs Bn l Dd : Nat} (hM : Frs M) {xs : List Nat} {W : World} (o' : Obj) (h : JiAt X D P s0 b0 C out pre size u L f Rb E Fb vw W0 n0 Ds M w B Bs Bn l Dd xs W) (hl : W.heap.size = (W.putObj l o').heap.size) : JiAt X D P s0 b0 C out pre size u L f Rb E Fb vw W0 n0 Ds M w B Bs Bn l Dd xs (W.putObj l o') := by
  obtain ⟨s, b, sa, sc, Wn, B', q, hW, hst, nx, hn, hz, h1, h2⟩ := h
  refine ⟨s, b, sa, sc, Wn, B', q, hW, stars_put ?_ hst hn.1 _, nx.put h1 _, hn, by rw [← hl]; exact hz, h1, h2⟩
  exact frs_dm D P s b ⟨fr_road _ _ _ _ _ _ _, fr_row _ _, fr_blk _ _ _, fr_row _ _, fr_blk _ _ _, fr_blk _ _ _, frs_defs hM⟩
theorem ji_gr {X D P : Nat} {s0 : St} {b0 : Bu} {C out pre : ByteArray} {size : Int} {u : Bool} {L : List ByteArray} {f Rb E Fb : Nat} {vw : Value} {W0 : Wq} {n0 : Nat} {Ds : List Nat} {M : List Asn} {w : World} {B : Nat → Prop} {Bs Bn l Dd : Nat} (hM : Frs M) {xs : List Nat} {W W' : World} (h : JiAt X D P s0 b0 C out pre size u L f Rb E Fb vw W0 n0 Ds M w B Bs Bn l Dd xs W) (g : Gr W W') : JiAt X D P s0 b0 C out pre size u L f Rb E Fb vw W0 n0 Ds M w B Bs Bn l Dd xs W' := by
  obtain ⟨s, b, sa, sc, Wn, B', q, hW, hst, nx, hn, hz, h1, h2⟩ := h
  have := g.size
  refine ⟨s, b, sa, sc, Wn, B', q, hW, stars_gr ?_ hst g, nx.trans (Nx.gr g), hn, by omega, h1, h2⟩
  exact frs_dm D P s b ⟨fr_road _ _ _ _ _ _ _, fr_row _ _, fr_blk _ _ _, fr_row _ _, fr_blk _ _ _, fr_blk _ _ _, frs_defs hM⟩
theorem jx_put {X D P : Nat} {s0 : St} {b0 : Bu} {C inn out pre : ByteArray} {size : Int} {u : Bool} {Rb E : Nat} {Ds : List Nat} {M : List Asn} {w : World} {B : Nat → Prop} {l Dd : Nat} (hM : Frs M) {c : Code} {xs : List Nat} {W : World} (o' : Obj) (h : JxAt X D P s0 b0 C inn out pre size u Rb E Ds M w B l Dd c xs W) : JxAt X D P s0 b0 C inn out pre size u Rb E Ds M w B l Dd c xs (W.putObj l o') := by
  obtain ⟨hc, s, b, n, er, B', he, hS, hst, nx, hn1, hn2, h1, h2⟩ := h
  refine ⟨hc, s, b, n, er, B', he, hS, stars_put ?_ hst hn1 _, nx.put h1 _, hn1, hn2, h1, h2⟩
  exact frs_dm D P s b ⟨fr_road _ _ _ _ _ _ _, fr_blk _ _ _, fr_blk _ _ _, frs_defs hM⟩
def JoGot (X D P : Nat) (s0 : St) (b0 : Bu) (C inn out pre : ByteArray) (size : Int) (u : Bool) (L : List ByteArray) (M : List Asn) (w : World) (B : Nat → Prop) (e : Ending) (w' : World) : Prop :=
  ∃ s b n nm er B', e = .returned (.tuple #[.string nm, .int .i64 er]) ∧ ((er = 0 ∧ ∃ l, XsJ s0 b0 C out size u L s b [(nm, l)] ∧ s.calls ≤ s0.calls + 710000000) ∨ (er ≠ 0 ∧ SortR s0 b0 C inn out size u s b 0 0 er)) ∧ stars ([DiskA D s, BuA P b] ++ (RoadA X D P pre size u n :: M)) w' B' ∧ Nx B w B' w'
theorem perm_jl (a b c e f : Asn) (N M : List Asn) : ([a, b] ++ (c :: e :: f :: (N ++ M))).Perm (N ++ (e :: f :: ([a, b] ++ (c :: M)))) :=
  (List.perm_append_comm_assoc [a, b, c, e, f] N M).trans (List.Perm.append_left N (perm_jz a b c e f M))
theorem jo_leave {a b c e f : Asn} {M : List Asn} (hF : Frs ([a, b] ++ (c :: e :: f :: M))) {n : Nat} {fn : Func} {tmps : Array Value} {R : Ending → World → Prop} {v : Value} {Ds : List Nat} {w W : World} {B B' : Nat → Prop} (hres : ∀ w, (results fn tmps).run Tryz.prog w = .ok v w) (h : stars ([a, b] ++ (c :: e :: f :: (defsA Ds ++ M))) W B') (nx : Nx B w B' W) (k : ∀ w' B'', stars ([a, b] ++ (c :: M)) w' B'' → Nx B w B'' w' → R (.returned v) w') : LeavesInM Fence.wide n Tryz.prog fn tmps R (Ds.map markD) .returning W := by
  refine leaves_marks (L := e :: f :: ([a, b] ++ (c :: M))) ⟨hF.2.2.2.1, hF.2.2.2.2.1, hF.1, hF.2.1, hF.2.2.1, hF.2.2.2.2.2⟩ hres Ds W B' (stars_perm (perm_jl _ _ _ _ _ _ _) h) fun w' B2 h2 n2 => ?_
  obtain ⟨B3, k3, n3⟩ := stars_drop h2
  obtain ⟨B4, k4, n4⟩ := stars_drop k3
  exact k w' B4 k4 (nx.trans (n2.trans (n3.trans n4)))
set_option maxRecDepth 100000 in
set_option maxHeartbeats 16000000 in
theorem join_road_c {X D P : Nat} {s0 : St} {b0 : Bu} {C inn out pre : ByteArray} {size : Int} {u : Bool} {L : List ByteArray} {s : St} {b : Bu} {W : Wq} {n f : Nat} {va : Option Addr} {vn vc : Nat} (hQ : JoQ s0 b0 C out pre size u L n s b W) (hW : W.length = vn) (hW1 : 1 ≤ vn) (hn7 : n + vn ≤ 700) (hpre : PreN out pre) (hro : rightB out.data.toList = true ∧ out.size ≤ 8) (hz : I64 size) (hCz : C.size ≤ 5000) (h16 : 16 ≤ b0.m - b0.now) (hf3 : 3 ≤ f) (hf64 : f ≤ 64) (hfan : 4 * (f : Int) + 4 ≤ b0.m - b0.now) (hc0 : 0 ≤ s0.calls) (hc1 : s0.calls ≤ 1000000) {w : World} {B : Nat → Prop} {M : List Asn} (hM : Frs M) (hT : TabB w B) (h : stars ([DiskA D s, BuA P b] ++ (RoadA X D P pre size u n :: RowA (.slice va vn vc) (W.map (·.1)) :: M)) w B) :
    Calls Tryz.prog 44 #[.pointer (some ⟨X, 0, none⟩), .slice va vn vc, .int .i64 (f : Int)] w (JoGot X D P s0 b0 C inn out pre size u L M w B) := by
  have ST := Lib.hid (show JoAt X D P s0 b0 C out pre size u L w.heap.size (w.heap.size + 1) M w B vn (.slice va vn vc) [] ((w.alloc (.cells #[.pointer (some ⟨X, 0, none⟩)] 79)).alloc (.cells #[.int .i64 0] 28)) from by
    have FR : Frs ([DiskA D s, BuA P b] ++ (RoadA X D P pre size u n :: RowA (.slice va vn vc) (W.map (·.1)) :: M)) := frs_dm D P s b ⟨fr_road _ _ _ _ _ _ _, fr_row _ _, hM⟩
    obtain ⟨B3, k3, n3⟩ := part_new (P := rbA w.heap.size X) (B' := fun b => b = w.heap.size) FR h (gral17 w (.cells #[.pointer (some ⟨X, 0, none⟩)] 79)) ⟨heap_alloc_new w _, fun _ => Iff.rfl⟩ (fun b hb => by rw [hb]; exact Nat.le_refl _)
    obtain ⟨B4, k4, n4⟩ := part_new (P := eA (w.heap.size + 1) 0) (B' := fun b => b = w.heap.size + 1) (L := rbA w.heap.size X :: ([DiskA D s, BuA P b] ++ (RoadA X D P pre size u n :: RowA (.slice va vn vc) (W.map (·.1)) :: M))) ⟨fr_blk _ _ _, FR⟩ k3 (gral17 _ (.cells #[.int .i64 0] 28)) ⟨by rw [← World.size_alloc w (.cells #[.pointer (some ⟨X, 0, none⟩)] 79)]; exact heap_alloc_new _ _, fun _ => Iff.rfl⟩ (fun b hb => by rw [hb, World.size_alloc]; exact Nat.le_refl _)
    refine ⟨va, vn, vc, n, s, b, W, B4, [], rfl, rfl, hW, rfl, hW1, hn7, hQ, stars_perm ?_ k4, n3.trans n4⟩
    exact perm_jo _ _ _ _ _ _ M)
  have K := Lib.hid (show PreN out pre ∧ (rightB out.data.toList = true ∧ out.size ≤ 8) ∧ I64 size ∧ C.size ≤ 5000 ∧ 16 ≤ b0.m - b0.now ∧ 3 ≤ f ∧ f ≤ 64 ∧ 4 * (f : Int) + 4 ≤ b0.m - b0.now ∧ 0 ≤ s0.calls ∧ s0.calls ≤ 1000000 ∧ Frs M ∧ TabB w B from ⟨hpre, hro, hz, hCz, h16, hf3, hf64, hfan, hc0, hc1, hM, hT⟩)
  have hfI : (f : Int) ≤ 64 := by omega
  have hf1I : (3 : Int) ≤ (f : Int) := by omega
  clear hQ hW hW1 hn7 hpre hro hz hCz h16 hf3 hf64 hfan hc0 hc1 hM hT h
  refine (callsIn_wide (n := 8)).1 ?_
  refine callsIn_of_wp_marks Tryz.func44 rfl trivial ?_ rfl
  simp only [Tryz.ntmps44, List.size_toArray, List.length_cons, List.length_nil, Nat.reduceAdd, Nat.reduceSub, Array.replicate_succ, Array.replicate_zero, List.push_toArray, List.append_toArray, List.nil_append, List.cons_append]
  refine wpIn_wide.2 ?_
  go_wp2_with fail
  go_step3
  go_wp2_with fail
  go_step3
  go_wp2_with fail
  refine wp_loop_ghost_k (fun k a wr => ∃ v1 ds u9 u10 u11 u12 u13 u14 u15 u16 u17 u18 u19 u20 u21 u22 u23 u24 u25 u26 u27 u28 u29 u30 u31, JoAt X D P s0 b0 C out pre size u L w.heap.size (w.heap.size + 1) M w B k v1 ds wr ∧ a = ⟨#[.pointer (some ⟨X, 0, none⟩), v1, .int .i64 (f : Int), .pointer (some ⟨w.heap.size, 0, none⟩), undef, undef, .string ⟨#[]⟩, .int .i64 0, .pointer (some ⟨w.heap.size + 1, 0, none⟩), u9, u10, u11, u12, u13, u14, u15, u16, u17, u18, u19, u20, u21, u22, u23, u24, u25, u26, u27, u28, u29, u30, u31, undef, undef, undef, undef, undef, undef], ds⟩) vn ?_ ?_
  · (repeat apply Exists.intro)
    refine ⟨ST.out, rfl⟩
  · clear ST
    rintro gk _ wr ⟨v1, ds, u9, u10, u11, u12, u13, u14, u15, u16, u17, u18, u19, u20, u21, u22, u23, u24, u25, u26, u27, u28, u29, u30, u31, hrel, rfl⟩
    intro _ _ _ _
    obtain ⟨va, vn, vc, n, s, b, W, B', Ds, rfl, rfl, hW, rfl, hW1, hn7, hQ, hst, nx⟩ := hrel
    have hvI : (vn : Int) ≤ 700 := by omega
    have hv1I : (1 : Int) ≤ (vn : Int) := by omega
    have FRD : Frs (defsA Ds ++ M) := frs_defs K.out.2.2.2.2.2.2.2.2.2.2.1
    by_cases hlt : 1 < vn
    · have hltI : (1 : Int) < (vn : Int) := by omega
      have FR1 : Frs ([DiskA D s, BuA P b] ++ (RoadA X D P pre size u n :: RowA (.slice va vn vc) (W.map (·.1)) :: rbA w.heap.size X :: eA (w.heap.size + 1) 0 :: (defsA Ds ++ M))) := frs_dm D P s b ⟨fr_road _ _ _ _ _ _ _, fr_row _ _, fr_blk _ _ _, fr_blk _ _ _, FRD⟩
      obtain ⟨g, hvag⟩ : ∃ g, va = some ⟨g, 0, none⟩ := by
        obtain ⟨_, hr, _⟩ := part_at 3 rfl hst
        obtain ⟨g, c, e, _⟩ := rowE_form hr (by rw [List.length_map, hW]; omega)
        simp only [Value.slice.injEq] at e
        exact ⟨g, e.1⟩
      subst hvag
      obtain ⟨hvc, hvm⟩ : vn ≤ vc ∧ vc ≤ maxLen := by
        obtain ⟨_, hr, _⟩ := part_at 3 rfl hst
        obtain ⟨a, c, e, h1, h2, _⟩ := rowE_shape hr
        simp only [Value.slice.injEq] at e
        obtain ⟨_, _, rfl⟩ := e
        rw [List.length_map, hW] at h1
        exact ⟨h1, h2⟩
      have hsz0 := nx.only.size
      have hlow := (fr_stars FR1).lo hst
      have H0 := Lib.hid (show JoQ s0 b0 C out pre size u L n s b W ∧ W.length = vn ∧ n + vn ≤ 700 ∧ vn ≤ vc ∧ w.heap.size ≤ wr.heap.size ∧ Nx B w B' wr from ⟨hQ, hW, hn7, hvc, hsz0, nx⟩)
      have HST := Lib.hid hst
      have HLO := Lib.hid hlow
      have CK := Lib.hid (fun v => chunkf_c (some ⟨g, 0, none⟩) vn vc f (by omega) (by omega) v)
      clear hQ hW hW1 hn7 hst nx FR1 hvc hvm hsz0 hlow
      go_wp2_with fail
      refine (CK.out _).mono ?_
      rintro e w4 ⟨rfl, hw4⟩
      have hz4 : w4.heap.size = wr.heap.size + 3 := by rw [hw4]; simp
      have g4 : Gr wr w4 := by rw [hw4]; exact gr_al _ (gr_al _ (gr_al _ (Gr.refl _)))
      have x1 : w4.heap[wr.heap.size + 1]? = some (.cells #[.slice (some ⟨g, 0, none⟩) vn vc] 22 (0, 0)) := by
        rw [hw4, Below.heap_alloc _ _ _ (by simp)]
        have := heap_alloc_new (wr.alloc (.cells #[.slice none 0 0] 22)) (.cells #[.slice (some ⟨g, 0, none⟩) vn vc] 22)
        rwa [World.size_alloc] at this
      have x2 : w4.heap[wr.heap.size + 2]? = some (.cells #[.int .i64 (f : Int)] 3 (0, 0)) := by
        rw [hw4]
        have := heap_alloc_new ((wr.alloc (.cells #[.slice none 0 0] 22)).alloc (.cells #[.slice (some ⟨g, 0, none⟩) vn vc] 22)) (.cells #[.int .i64 (f : Int)] 3)
        rwa [World.size_alloc, World.size_alloc] at this
      have x0 : w4.heap[wr.heap.size]? = some (.cells #[.slice none 0 0] 22 (0, 0)) := by
        rw [hw4, Below.heap_alloc _ _ _ (by simp; omega), Below.heap_alloc _ _ _ (by simp)]
        exact heap_alloc_new wr _
      clear CK hw4
      go_wp2_with fail
      refine wpIn_wide.1 (wpIn_told2 (n := 8) (by omega) (gf := 100) (lb := #[.pointer (some ⟨wr.heap.size + 1, 0, none⟩), .pointer (some ⟨wr.heap.size + 2, 0, none⟩)]) rfl (enters_of Tryz.func100 (by kernel_rfl) rfl)
        (chunkf_told (n := 7) (by omega) (b := g) (off := 0) (c := vc) (t := vn) (by have := K.out.2.2.2.2.2.1; omega) (by omega) (by omega) H0.out.2.2.2.1 x1 x2) (fun h k => chunkK_t h k) (fun W l o o' hl h ho => chunkK_b (by omega) (by omega) W l o o' hl h ho) (Below.refl _ _) (fun _ => rfl)
        (JiAt X D P s0 b0 C out pre size u L f w.heap.size (w.heap.size + 1) wr.heap.size (.slice (some ⟨g, 0, none⟩) vn vc) W n Ds M w B (wr.heap.size + 1) (wr.heap.size + 2))
        (JxAt X D P s0 b0 C inn out pre size u w.heap.size (w.heap.size + 1) Ds M w B)
        (fun l D s W o' h hr => ji_put K.out.2.2.2.2.2.2.2.2.2.2.1 o' h (by simp))
        (fun l D s A B h g => ji_gr K.out.2.2.2.2.2.2.2.2.2.2.1 h g)
        (fun l D c s W o' h hr => jx_put K.out.2.2.2.2.2.2.2.2.2.2.1 o' h)
        ?start ?a1 ?assign ?body ?done ?stop)
      case assign =>
        intro l x W K hK
        gi_wp2
        exact hK
      case start =>
        intro W1 g1 hz1
        have hw := H0.out.2.2.2.2.1
        have y0 : W1.heap[wr.heap.size]? = some (.cells #[.slice none 0 0] 22 (0, 0)) := by rw [g1.block _ (by omega)]; exact x0
        have hlo : ∀ x, B' x → x < wr.heap.size := HLO.out
        have FR1 : Frs ([DiskA D s, BuA P b] ++ (RoadA X D P pre size u n :: RowA (.slice (some ⟨g, 0, none⟩) vn vc) (W.map (·.1)) :: rbA w.heap.size X :: eA (w.heap.size + 1) 0 :: (defsA Ds ++ M))) := frs_dm D P s b ⟨fr_road _ _ _ _ _ _ _, fr_row _ _, fr_blk _ _ _, fr_blk _ _ _, FRD⟩
        have h1 := stars_gr FR1 HST.out (g4.trans g1)
        have h2 : stars (RowA (.slice none 0 0) [] :: Blk wr.heap.size #[.slice none 0 0] 22 :: ([DiskA D s, BuA P b] ++ (RoadA X D P pre size u n :: RowA (.slice (some ⟨g, 0, none⟩) vn vc) (W.map (·.1)) :: rbA w.heap.size X :: eA (w.heap.size + 1) 0 :: (defsA Ds ++ M)))) W1 (fun x => x = wr.heap.size ∨ B' x) :=
          ⟨fun _ => False, fun x => x = wr.heap.size ∨ B' x, row_nil W1, ⟨fun x => x = wr.heap.size, B', ⟨y0, fun _ => Iff.rfl⟩, h1, fun x e hb => by have := hlo x hb; omega, fun _ => Iff.rfl⟩, fun x h => h.elim, fun x => by simp⟩
        refine ⟨s, b, none, 0, [], fun x => x = wr.heap.size ∨ B' x, ?_, rfl, stars_perm (perm_ji _ _ _ _ _ _) h2, ?_, ⟨?_, ?_, ?_, ?_⟩, by omega, by omega, by omega⟩
        · have := H0.out.1
          simpa using this
        · exact ⟨(H0.out.2.2.2.2.2.only).trans (Only.ofGr (g4.trans g1)), fun x hx => by
            rcases hx with hx | hx
            · exact .inr (by omega)
            · exact H0.out.2.2.2.2.2.new x hx⟩
        all_goals
          rintro (h | h)
          · omega
          · have := hlo _ h
            omega
      case body =>
        rintro l Dd pre' x W2 hl hD ⟨s2, b2, sa, sc, Wn, B2, hQ2, hWl, h2, n2, hn, hz, h1, h2b⟩ ⟨hpre', hx⟩
        have hxl : pre'.length = x := by rw [hpre', List.length_range]
        rw [hxl] at hQ2 hWl h2
        have hf3 := K.out.2.2.2.2.2.1
        have hxx : x ≤ f * x := Nat.le_mul_of_pos_left x (by omega)
        have hn7 := H0.out.2.2.1
        have hf1 : f * (x + 1) = f * x + f := by rw [Nat.mul_add, Nat.mul_one]
        have esplit : W.drop (f * x) ++ Wn = (W.drop (f * x)).take f ++ (W.drop (f * (x + 1)) ++ Wn) := by
          rw [← List.append_assoc, hf1, ← List.drop_drop, List.take_append_drop]
        obtain ⟨Xq, hXq⟩ : ∃ Xq, (W.drop (f * x)).take f = Xq := ⟨_, rfl⟩
        have hXl : Xq.length = min f (vn - f * x) := by rw [← hXq, List.length_take, List.length_drop, H0.out.2.1]
        have hXn : Xq.map (·.1) = ((W.map (·.1)).drop (f * x)).take f := by rw [← hXq, List.map_take, List.map_drop]
        rw [hXq] at esplit
        rw [esplit] at hQ2
        have FRM : Frs (RowA (.slice sa x sc) (Wn.map (·.1)) :: Blk wr.heap.size #[.slice sa x sc] 22 :: RowA (.slice (some ⟨g, 0, none⟩) vn vc) (W.map (·.1)) :: rbA w.heap.size X :: eA (w.heap.size + 1) 0 :: (defsA Ds ++ M)) := ⟨fr_row _ _, fr_blk _ _ _, fr_row _ _, fr_blk _ _ _, fr_blk _ _ _, FRD⟩
        have hcl := hQ2.calls
        have NMH := Lib.hid hQ2.nm
        have ON := Lib.hid (one18_c (inn := inn) (n := n + x) (Xq := Xq) (Yq := W.drop (f * (x + 1)) ++ Wn) (v := partV g 0 vn f x) hQ2.j K.out.1 K.out.2.1 hQ2.nm (by omega) K.out.2.2.1 K.out.2.2.2.1 (.inl (by rw [hXl]; omega)) (by rw [hXl]; have := K.out.2.2.2.2.2.2.1; omega) K.out.2.2.2.2.1 (by rw [hXl]; have := K.out.2.2.2.2.2.2.2.1; omega) K.out.2.2.2.2.2.2.2.2.1 (by omega) (by have := K.out.2.2.2.2.2.2.2.2.2.1; omega) (w := W2) (B := B2) FRM (K.out.2.2.2.2.2.2.2.2.2.2.2.nx n2) (fun wv B3 q => by
          obtain ⟨_, r, _⟩ := part_at 2 rfl q
          rw [hXn]
          exact row_part r (by rw [List.length_map]; exact H0.out.2.1) hx) h2)
        have cR : W2.cell? ⟨w.heap.size, 0, none⟩ = some (.pointer (some ⟨X, 0, none⟩)) := by
          obtain ⟨_, q, _⟩ := part_at 6 rfl h2
          rw [cells_at q.1]; rfl
        have HB := Lib.hid (show Nx B w B2 W2 ∧ (¬ B2 l ∧ ¬ B2 Dd ∧ ¬ B2 (wr.heap.size + 1) ∧ ¬ B2 (wr.heap.size + 2)) ∧ (l < W2.heap.size ∧ Dd < W2.heap.size ∧ wr.heap.size + 1 < W2.heap.size ∧ wr.heap.size + 2 < W2.heap.size) ∧ w.heap.size ≤ l ∧ w.heap.size ≤ Dd ∧ Wn.length = x ∧ pre'.length = x ∧ n + x < 700 ∧ s2.calls ≤ s0.calls + 3000000 + 1000064 * ((n + x : Nat) : Int) from ⟨n2, hn, hz, h1, h2b, hWl, hxl, by omega, hcl⟩)
        have FRH := Lib.hid FRM
        have hxI : (x : Int) ≤ 700 := by omega
        clear hQ2 hWl h2 n2 hn hz h1 h2b hxx hn7 hf1 esplit hXl hXn FRM hcl hxl hpre' hx hl hD
        gi_wp2_with fail
        refine ⟨trivial, (CallsIn.inRound l (callsIn_wide.2 ON.out)).mono ?_⟩
        rintro e w3 ⟨s3, b3, nm, er, B3, rfl, hres, hc3, h3, n3⟩
        have FR3 : Frs ([DiskA D s3, BuA P b3] ++ (RoadA X D P pre size u (n + x + 1) :: RowA (.slice sa x sc) (Wn.map (·.1)) :: Blk wr.heap.size #[.slice sa x sc] 22 :: RowA (.slice (some ⟨g, 0, none⟩) vn vc) (W.map (·.1)) :: rbA w.heap.size X :: eA (w.heap.size + 1) 0 :: (defsA Ds ++ M))) := frs_dm D P s3 b3 ⟨fr_road _ _ _ _ _ _ _, FRH.out⟩
        obtain ⟨_, qE, _⟩ := part_at 7 rfl h3
        have cE3 : w3.cell? ⟨w.heap.size + 1, 0, none⟩ = some (.int .i64 0) := by rw [cells_at qE.1]; rfl
        have fE3 := cells_free qE.1 0
        obtain ⟨B4, h4, n4⟩ := step_at (w' := w3.setCell ⟨w.heap.size + 1, 0, none⟩ (.int .i64 er)) (Q := eA (w.heap.size + 1) er) 7 rfl FR3 h3 (fun B1 q => blk_next (i := 0) q (.int .i64 er))
        replace h4 : stars ([DiskA D s3, BuA P b3] ++ (RoadA X D P pre size u (n + x + 1) :: RowA (.slice sa x sc) (Wn.map (·.1)) :: Blk wr.heap.size #[.slice sa x sc] 22 :: RowA (.slice (some ⟨g, 0, none⟩) vn vc) (W.map (·.1)) :: rbA w.heap.size X :: eA (w.heap.size + 1) er :: (defsA Ds ++ M))) (w3.setCell ⟨w.heap.size + 1, 0, none⟩ (.int .i64 er)) B4 := h4
        obtain ⟨_, qE4, _⟩ := part_at 7 rfl h4
        obtain ⟨_, qF4, _⟩ := part_at 4 rfl h4
        have cE4 : (w3.setCell ⟨w.heap.size + 1, 0, none⟩ (.int .i64 er)).cell? ⟨w.heap.size + 1, 0, none⟩ = some (.int .i64 er) := by rw [cells_at qE4.1]; rfl
        have cF4 : (w3.setCell ⟨w.heap.size + 1, 0, none⟩ (.int .i64 er)).cell? ⟨wr.heap.size, 0, none⟩ = some (.slice sa x sc) := by rw [cells_at qF4.1]; rfl
        obtain ⟨W4, hW4⟩ : ∃ W4, w3.setCell ⟨w.heap.size + 1, 0, none⟩ (.int .i64 er) = W4 := ⟨_, rfl⟩
        rw [hW4] at h4 n4 cE4 cF4
        have HW4 := Lib.hid hW4
        have bF4 : wr.heap.size < W4.heap.size := by rw [hW4] at qF4; exact lt_of_block qF4.1
        have bE4 : w.heap.size + 1 < W4.heap.size := by rw [hW4] at qE4; exact lt_of_block qE4.1
        have H4 := Lib.hid h4
        have N4 := Lib.hid (n3.trans n4)
        have HC3 := Lib.hid hc3
        clear h3 n3 h4 n4 FR3 qE qE4 qF4 ON hc3
        by_cases he : er = 0
        · subst he
          have hQ3 : nm = nameN pre ((n + x : Nat) : Int) ∧ XsJ s0 b0 C out size u L s3 b3 ((W.drop (f * (x + 1)) ++ Wn) ++ [(nameN pre ((n + x : Nat) : Int), sortT (Xq.map (·.2)).flatten u)]) := by
            rcases hres with ⟨_, k1, k2⟩ | ⟨k, _⟩
            · exact ⟨k1, k2⟩
            · exact absurd rfl k
          have HQ3 := Lib.hid hQ3
          obtain ⟨i0, hi0⟩ : ∃ i, Tryz.prog.info? 9 = some i ∧ (i.zero, i.size, i.bytes) = (some (.string ⟨#[]⟩), 1, 16) := by
            have := infoS
            rw [Option.map_eq_some_iff] at this
            obtain ⟨i, h1, h2⟩ := this
            exact ⟨i, h1, h2⟩
          obtain ⟨hi', hz'⟩ := hi0
          simp only [Prod.mk.injEq] at hz'
          obtain ⟨hz0, hz1, hz2⟩ := hz'
          have OW := Lib.hid (show W4.ownsRow 0 9 1 (.slice sa x sc) x (strs (Wn.map (·.1))) from by
            obtain ⟨_, hb, _⟩ := part_at 3 rfl H4.out
            have := hb.1
            rwa [List.length_map, HB.out.2.2.2.2.2.1] at this)
          clear hres hQ3
          gi_wp2_with (first
            | (gi_at_builtin; refine wpListIn_append_own_at _ rfl _ _ 22 rfl 0 9 i0 (.string ⟨#[]⟩) 1 16 Tryz.underlying22 hi' hz0 hz1 hz2 rfl (by decide) (.slice sa x sc) x (strs (Wn.map (·.1))) rfl (OW.out.alloc _) ⟨W4.heap.size, 0, none⟩ 1 1 [.string nm] rfl rfl (cell_one_new _ _ _) (by simp [Value.oneCell']) (by unfold maxLen; omega) (by omega) (Nat.zero_le _) ?_)
            | fail)
          intro v5 w5 ho5 hg5 _ ha5
          have FR4 : Frs ([DiskA D s3, BuA P b3] ++ (RoadA X D P pre size u (n + x + 1) :: RowA (.slice sa x sc) (Wn.map (·.1)) :: Blk wr.heap.size #[.slice sa x sc] 22 :: RowA (.slice (some ⟨g, 0, none⟩) vn vc) (W.map (·.1)) :: rbA w.heap.size X :: eA (w.heap.size + 1) 0 :: (defsA Ds ++ M))) := frs_dm D P s3 b3 ⟨fr_road _ _ _ _ _ _ _, FRH.out⟩
          obtain ⟨B5, h5, n5⟩ := step_at (w' := w5) (Q := RowA v5 (Wn.map (·.1) ++ [nm])) 3 rfl FR4 H4.out fun B1 q => row_app q ((Gr.refl W4).alloc (Nat.le_refl _) (.cells #[.string nm] 9)) (by rw [List.length_map, HB.out.2.2.2.2.2.1]; exact ho5) hg5 (by rw [World.size_alloc]; exact ha5)
          replace h5 : stars ([DiskA D s3, BuA P b3] ++ (RoadA X D P pre size u (n + x + 1) :: RowA v5 (Wn.map (·.1) ++ [nm]) :: Blk wr.heap.size #[.slice sa x sc] 22 :: RowA (.slice (some ⟨g, 0, none⟩) vn vc) (W.map (·.1)) :: rbA w.heap.size X :: eA (w.heap.size + 1) 0 :: (defsA Ds ++ M))) w5 B5 := h5
          have hsh : ∃ s5 c5, v5 = .slice s5 (x + 1) c5 := by
            rcases ho5.2 with ⟨e1, e2⟩ | ⟨g, cap, cur, e1, _⟩
            · exact absurd e2 (by omega)
            · exact ⟨_, cap, e1⟩
          obtain ⟨s5, c5, rfl⟩ := hsh
          have FR5 : Frs ([DiskA D s3, BuA P b3] ++ (RoadA X D P pre size u (n + x + 1) :: RowA (.slice s5 (x + 1) c5) (Wn.map (·.1) ++ [nm]) :: Blk wr.heap.size #[.slice sa x sc] 22 :: RowA (.slice (some ⟨g, 0, none⟩) vn vc) (W.map (·.1)) :: rbA w.heap.size X :: eA (w.heap.size + 1) 0 :: (defsA Ds ++ M))) := frs_dm D P s3 b3 ⟨fr_road _ _ _ _ _ _ _, fr_row _ _, FRH.out.2⟩
          obtain ⟨_, qF5, _⟩ := part_at 4 rfl h5
          have cF5 : w5.cell? ⟨wr.heap.size, 0, none⟩ = some (.slice sa x sc) := by rw [cells_at qF5.1]; rfl
          have fF5 := cells_free qF5.1 0
          have bF5 := lt_of_block qF5.1
          obtain ⟨B6, h6, n6⟩ := step_at (w' := w5.setCell ⟨wr.heap.size, 0, none⟩ (.slice s5 (x + 1) c5)) (Q := Blk wr.heap.size #[.slice s5 (x + 1) c5] 22) 4 rfl FR5 h5 (fun B1 q => blk_next (i := 0) q (.slice s5 (x + 1) c5))
          obtain ⟨W6, hW6⟩ : ∃ W6, w5.setCell ⟨wr.heap.size, 0, none⟩ (.slice s5 (x + 1) c5) = W6 := ⟨_, rfl⟩
          rw [hW6] at h6 n6
          have FIN := Lib.hid (show (W6.heap[l]? = W2.heap[l]? ∧ W6.heap[Dd]? = W2.heap[Dd]?) ∧ ChunkKeep (wr.heap.size + 1) (wr.heap.size + 2) W2 W6 ∧ JiAt X D P s0 b0 C out pre size u L f w.heap.size (w.heap.size + 1) wr.heap.size (.slice (some ⟨g, 0, none⟩) vn vc) W n Ds M w B (wr.heap.size + 1) (wr.heap.size + 2) l Dd (pre' ++ [x]) W6 from by
            have nn := N4.out.trans (n5.trans n6)
            obtain ⟨p1, p2, p3, p4, p5, p6, p7, p8, p9⟩ := HB.out
            obtain ⟨q1, q2⟩ := HQ3.out
            have hpl : (pre' ++ [x]).length = x + 1 := by rw [List.length_append, p7]; rfl
            have hsz := nn.only.size
            have hout : ∀ k, k < W2.heap.size → ¬ B2 k → ¬ B6 k := fun k k1 k2 k3 => by
              rcases nn.new k k3 with k4 | k4
              · exact k2 k4
              · omega
            refine ⟨⟨nn.only.block l p3.1 p2.1, nn.only.block Dd p3.2.1 p2.2.1⟩, ⟨hsz, nn.only.block _ p3.2.2.1 p2.2.2.1, nn.only.block _ p3.2.2.2 p2.2.2.2⟩, ?_⟩
            refine ⟨s3, b3, s5, c5, Wn ++ [(nm, sortT (Xq.map (·.2)).flatten u)], B6, ?_, ?_, ?_, p1.trans nn, ⟨hout _ p3.1 p2.1, hout _ p3.2.1 p2.2.1, hout _ p3.2.2.1 p2.2.2.1, hout _ p3.2.2.2 p2.2.2.2⟩, by omega, p4, p5⟩
            · rw [hpl, q1, ← List.append_assoc]
              refine ⟨q2, fun p hp => ?_, ?_⟩
              · rcases List.mem_append.1 hp with hp | hp
                · have hp' : p ∈ Xq ++ (W.drop (f * (x + 1)) ++ Wn) := List.mem_append_right _ hp
                  obtain ⟨i, hi, e⟩ := NMH.out p hp'
                  exact ⟨i, by omega, e⟩
                · rw [List.mem_singleton.1 hp]
                  exact ⟨n + x, by omega, rfl⟩
              · have := HC3.out
                omega
            · rw [List.length_append, p6, hpl]; rfl
            · rw [hpl, List.map_append]
              exact h6)
          clear ho5 hg5 ha5 h5 n5 h6 n6 FR4 FR5 qF5
          gi_wp2_with fail
          exact told2_on FIN.out.1 FIN.out.2.1 FIN.out.2.2
        · have hne' : (er != 0) = true := by simpa using he
          have hSR : SortR s0 b0 C inn out size u s3 b3 0 0 er := by
            rcases hres with ⟨k, _⟩ | ⟨_, k⟩
            · exact absurd k he
            · exact k
          have FIN := Lib.hid (show (W4.heap[l]? = W2.heap[l]? ∧ W4.heap[Dd]? = W2.heap[Dd]?) ∧ JxAt X D P s0 b0 C inn out pre size u w.heap.size (w.heap.size + 1) Ds M w B l Dd (.exit 0) (pre' ++ [x]) W4 from by
            obtain ⟨B5, k5, n5⟩ := stars_drop (stars_perm (perm_jy _ _ _ _ _ _ _) H4.out)
            obtain ⟨B6, k6, n6⟩ := stars_drop k5
            obtain ⟨B7, k7, n7⟩ := stars_drop k6
            have nn := N4.out.trans (n5.trans (n6.trans n7))
            obtain ⟨p1, p2, p3, p4, p5, _⟩ := HB.out
            refine ⟨⟨nn.only.block l p3.1 p2.1, nn.only.block Dd p3.2.1 p2.2.1⟩, rfl, s3, b3, _, er, B7, he, hSR, k7, p1.trans nn, fun hb => ?_, fun hb => ?_, p4, p5⟩
            · rcases nn.new l hb with k | k
              · exact p2.1 k
              · have := p3.1; omega
            · rcases nn.new Dd hb with k | k
              · exact p2.2.1 k
              · have := p3.2.1; omega)
          clear hres hSR
          gi_wp2_with fail
          exact told2_exit FIN.out.1 FIN.out.2
      case done =>
        rintro l Dd xs W2 hD rfl ⟨s2, b2, sa, sc, Wn, B2, hQ2, hWl, h2, n2, hn, hz, h1, h2b⟩ hK
        rw [List.length_range] at hQ2 hWl h2
        have hall := all_cut (n := vn) (f := f) (by have := K.out.2.2.2.2.2.1; omega)
        obtain ⟨hc1, hc2⟩ := half_le (n := vn) (most := f) (by omega) K.out.2.2.2.2.2.1
        obtain ⟨cnt, hcnt⟩ : ∃ cnt, (vn + f - 1) / f = cnt := ⟨_, rfl⟩
        rw [hcnt] at hQ2 hWl h2 hall hc1 hc2
        rw [List.drop_of_length_le (by rw [H0.out.2.1]; exact hall), List.nil_append] at hQ2
        have cF : W2.cell? ⟨wr.heap.size, 0, none⟩ = some (.slice sa cnt sc) := by
          obtain ⟨_, q, _⟩ := part_at 4 rfl h2
          rw [cells_at q.1]; rfl
        obtain ⟨B3, k3, n3⟩ := stars_drop (stars_perm (perm_jx _ _ _ _ _ _ _) h2)
        obtain ⟨B4, k4, n4⟩ := stars_drop k3
        have nD : ¬ B4 Dd := fun hb => by
          rcases (n3.trans n4).new Dd hb with k | k
          · exact hn.2.1 k
          · have := hz.2.1; omega
        have REL := Lib.hid (show JoAt X D P s0 b0 C out pre size u L w.heap.size (w.heap.size + 1) M w B cnt (.slice sa cnt sc) (markD Dd :: Ds.map markD) W2 from
          ⟨sa, cnt, sc, n + cnt, s2, b2, Wn, _, Dd :: Ds, rfl, rfl, hWl, rfl, hc1, by have := H0.out.2.2.1; omega, hQ2, stars_perm (perm_jd _ _ _ _ _ _ _ _) (def_new k4 nD hK), ⟨(n2.trans (n3.trans n4)).only, fun x hx => by
            rcases hx with rfl | hx
            · exact .inr h2b
            · exact (n2.trans (n3.trans n4)).new x hx⟩⟩)
        have HC := Lib.hid (show cnt < vn by omega)
        clear hQ2 hWl h2 n2 hn hz h1 h2b hK hall hc1 hc2 hcnt k3 n3 k4 n4 nD x0 x1 x2 g4 hz4
        go_wp2_with fail
        go_roundg cnt
        case measure => exact HC.out
        case rel => exact REL.out
      case stop =>
        rintro l Dd c pre' W2 hD - ⟨rfl, s2, b2, n2', er, B2, hne, hSR, h2, n2, hn1, hn2, h1, h2b⟩ hK
        have cE : W2.cell? ⟨w.heap.size + 1, 0, none⟩ = some (.int .i64 er) := by
          obtain ⟨_, q, _⟩ := part_at 4 rfl h2
          rw [cells_at q.1]; rfl
        have hne' : (er != 0) = true := by simpa using hne
        have LV := Lib.hid (fun (v : World) (gv : Gr W2 v) => stars_gr (show Frs (DefB Dd :: ([DiskA D s2, BuA P b2] ++ (RoadA X D P pre size u n2' :: rbA w.heap.size X :: eA (w.heap.size + 1) er :: (defsA Ds ++ M)))) from ⟨fr_def _, frs_dm D P s2 b2 ⟨fr_road _ _ _ _ _ _ _, fr_blk _ _ _, fr_blk _ _ _, FRD⟩⟩) (def_new h2 hn2 hK) gv)
        have NN := Lib.hid (show Nx B w (fun b => b = Dd ∨ B2 b) W2 from ⟨n2.only, fun x hx => by
            rcases hx with rfl | hx
            · exact .inr h2b
            · exact n2.new x hx⟩)
        have HSR := Lib.hid (show er ≠ 0 ∧ SortR s0 b0 C inn out size u s2 b2 0 0 er from ⟨hne, hSR⟩)
        clear hSR h2 n2 hn1 hn2 h1 h2b hK x0 x1 x2 g4 hz4 hne
        refine wpIn_wide.2 ?_
        go_wp2_with fail
        go_quiet (fail)
        go_wp2_with fail
        refine jo_leave (Ds := Dd :: Ds) (frs_dm D P s2 b2 ⟨fr_road _ _ _ _ _ _ _, fr_blk _ _ _, fr_blk _ _ _, K.out.2.2.2.2.2.2.2.2.2.2.1⟩) (fun w => results_tmp2 (t := 6) (u := 7) rfl _ _ w) (stars_perm (perm_je _ _ _ _ _ _ _) (LV.out _ (grN W2 _))) (NN.out.trans (Nx.gr (grN W2 _))) ?_
        intro w' B'' h' n'
        exact ⟨s2, b2, _, _, er, B'', rfl, .inr HSR.out, h', n'⟩
    · obtain rfl : vn = 1 := by omega
      obtain ⟨⟨o, lo⟩, rfl⟩ := List.length_eq_one_iff.1 hW
      obtain ⟨g, hvag⟩ : ∃ g, va = some ⟨g, 0, none⟩ := by
        obtain ⟨_, hr, _⟩ := part_at 3 rfl hst
        obtain ⟨g, c, e, _⟩ := rowE_form hr (by simp)
        simp only [Value.slice.injEq] at e
        exact ⟨g, e.1⟩
      subst hvag
      have cE : wr.cell? ⟨w.heap.size + 1, 0, none⟩ = some (.int .i64 0) := by
        obtain ⟨_, q, _⟩ := part_at 5 rfl hst
        rw [cells_at q.1]; rfl
      have cO : wr.cell? ⟨g, 0, none⟩ = some (.string o) := by
        obtain ⟨_, hr, _⟩ := part_at 3 rfl hst
        exact (rowE_at hr rfl (j := 0) (x := .string o) rfl).1
      have HST := Lib.hid (by
        obtain ⟨B5, k5, n5⟩ := stars_drop (stars_perm (List.perm_middle (l₁ := [DiskA D s, BuA P b, RoadA X D P pre size u n])) hst)
        exact ⟨B5, k5, nx.trans n5⟩ : ∃ B5, stars ([DiskA D s, BuA P b] ++ (RoadA X D P pre size u n :: rbA w.heap.size X :: eA (w.heap.size + 1) 0 :: (defsA Ds ++ M))) wr B5 ∧ Nx B w B5 wr)
      have HQ := Lib.hid (show XsJ s0 b0 C out size u L s b [(o, lo)] ∧ s.calls ≤ s0.calls + 710000000 from ⟨hQ.j, by have := hQ.calls; omega⟩)
      clear hst nx hQ hn7
      go_wp2_with fail
      obtain ⟨B5, k5, n5⟩ := HST.out
      refine jo_leave (Ds := Ds) (frs_dm D P s b ⟨fr_road _ _ _ _ _ _ _, fr_blk _ _ _, fr_blk _ _ _, K.out.2.2.2.2.2.2.2.2.2.2.1⟩) (fun w => results_tmp2 (t := 6) (u := 7) rfl _ _ w) k5 n5 ?_
      intro w' B'' h' n'
      exact ⟨s, b, _, o, 0, B'', rfl, .inl ⟨rfl, lo, HQ.out⟩, h', n'⟩
end Go.Proofs.YtjplkmmhjfpdaaaGreatDoor
