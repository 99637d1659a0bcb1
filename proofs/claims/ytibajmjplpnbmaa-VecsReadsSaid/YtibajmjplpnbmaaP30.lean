/- In one text: VcFetch. -/
import Derived.Test.YtibajmjplpnbmaaP29
import Derived.Maps.AppendAt
import Derived.RegionTactic
import Derived.BigRegion
/- The program's store: fetch. -/
namespace Go.Proofs.Ytibajmjplpnbmaa
open Go.RowKit FsPlain OctPlain DsPlain
set_option linter.unusedVariables false
set_option linter.unusedSimpArgs false
set_option maxRecDepth 20000
/-- What stays when one comes in. -/
def cutK (K : List Kp) (room : Nat) : List Kp := if K.length = room then K.take (room - 1) else K
/-- What fetch leaves. -/
def FetV (p D P : Nat) (o : So) (K : List Kp) (s : St) (i : Nat) (w : World) (B : Nat → Prop) (x : Ending) (w' : World) : Prop :=
  ∃ vh' K' B', x = .returned (.int .i64 (readN s o i).2) ∧ stars (sdv p D P o vh' K' s.call) w' B' ∧ Nx B w B' w' ∧ ((readN s o i).2 = 0 → ∃ a c, K' = ⟨i, a, c, (readN s o i).1⟩ :: cutK K o.room) ∧ ((readN s o i).2 ≠ 0 → K' = K)
theorem infoK : (Try.prog.info? 79).map (fun i => (i.zero, i.size, i.bytes)) = some (some (.agg #[.int .i64 0, .slice none 0 0]), 2, 32) := by kernel_rfl
theorem info_partsV {o : Option TypeInfo} {a : Option Value} {b c : Nat} (h : o.map (fun i => (i.zero, i.size, i.bytes)) = some (a, b, c)) : ∃ i, o = some i ∧ i.zero = a ∧ i.size = b ∧ i.bytes = c := by
  cases o with
  | none => cases h
  | some i => simp at h; exact ⟨i, rfl, h.1, h.2.1, h.2.2⟩
/-- The parts, with slices that are not yet in the row. -/
def sdx (p D P : Nat) (o : So) (vh : Value) (K L : List Kp) (s : St) : List Asn := [Blk p (stc D P o vh) 50, RowK vh K, VecA L, DiskA D s]
theorem frs_sdx (p D P : Nat) (o : So) (vh : Value) (K L : List Kp) (s : St) : Frs (sdx p D P o vh K L s) := ⟨fr_blk _ _ _, fr_rowK _ _, fr_vec _, fr_disk _ _, trivial⟩
theorem sdx_blk {p D P : Nat} {o : So} {vh : Value} {K L : List Kp} {s : St} {w : World} {B : Nat → Prop} (h : stars (sdx p D P o vh K L s) w B) : w.heap[p]? = some (.cells (stc D P o vh) 50 (0, 0)) := by
  obtain ⟨_, h, _⟩ := part_at 0 rfl h
  exact h.1
theorem sdx_row {p D P : Nat} {o : So} {vh : Value} {K L : List Kp} {s : St} {w : World} {B : Nat → Prop} (h : stars (sdx p D P o vh K L s) w B) : OwnK w vh K := by
  obtain ⟨_, h, _⟩ := part_at 1 rfl h
  exact h.1
/-- A new one's slice beside those of the others. -/
theorem sdx_one {p D P : Nat} {o : So} {vh : Value} {K : List Kp} {s : St} {w w' : World} {B : Nat → Prop} (h : stars (sdv p D P o vh K s) w B) (g : Gr w w') {i : Int} {a : Option Addr} {c : Nat} {l : List Int} (hv : w'.ownsRow w.heap.size 3 1 (.slice a l.length c) l.length (ints l)) :
    ∃ B', stars (sdx p D P o vh K (K ++ [⟨i, a, c, l⟩]) s) w' B' ∧ Nx B w B' w' := by
  obtain ⟨B', h', n'⟩ := step_at (Q := VecA (K ++ [⟨i, a, c, l⟩])) 2 rfl (frs_sdv _ _ _ _ _ _ _) h fun B1 h1 => vec_one h1 g hv
  exact ⟨B', h', n'⟩
/-- The row is cut; its value is stored. -/
theorem sdx_cut {p D P : Nat} {o : So} {ad : Option Addr} {c : Nat} {K L : List Kp} {s : St} {w : World} {B : Nat → Prop} (h : stars (sdx p D P o (.slice ad K.length c) K L s) w B) (m : Nat) (hm : m ≤ K.length) :
    ∃ B', stars (sdx p D P o (.slice ad m c) (K.take m) L s) (w.setCell ⟨p, 6, none⟩ (.slice ad m c)) B' ∧ Nx B w B' (w.setCell ⟨p, 6, none⟩ (.slice ad m c)) := by
  obtain ⟨B1, h1, n1⟩ := step_at (L := sdx p D P o (.slice ad K.length c) K L s) (Q := RowK (.slice ad m c) (K.take m)) 1 rfl (frs_sdx _ _ _ _ _ _ _ _) h fun B1 h1 => ⟨B1, ⟨ownK_take h1.1 m hm, (fun b hb => h1.2.1 b (by cases ad with | none => cases hb | some a => exact hb)), h1.2.2⟩, Nx.refl _ _⟩
  obtain ⟨B2, h2, n2⟩ := step_at (L := [Blk p (stc D P o (.slice ad K.length c)) 50, RowK (.slice ad m c) (K.take m), VecA L, DiskA D s]) (Q := Blk p (stc D P o (.slice ad m c)) 50) 0 rfl ⟨fr_blk _ _ _, fr_rowK _ _, fr_vec _, fr_disk _ _, trivial⟩ (w' := w.setCell ⟨p, 6, none⟩ (.slice ad m c)) h1 fun B1 h1 => blk_nextV (i := 6) h1 (.slice ad m c)
  exact ⟨B2, h2, n1.trans n2⟩
/-- One more is in the row; its value is stored; the slices of others are forgotten. -/
theorem sdx_app {p D P : Nat} {o : So} {vh v' : Value} {K L : List Kp} {x : Kp} {s : St} {w w1 w' : World} {B : Nat → Prop} (h : stars (sdx p D P o vh K L s) w B) (hs : ∀ y ∈ K ++ [x], y ∈ L) (g : Gr w w1)
    (hown : w'.ownsRow 0 79 2 v' (K.length + 1) (kvs K ++ [.int .i64 x.id, x.v])) (hg : w1.grownBy w' vh.ownBlock) (hat : v'.ownBlock = vh.ownBlock ∨ v'.ownBlock = some w1.heap.size) :
    (∃ B', stars (sdv p D P o v' (K ++ [x]) s) (w'.setCell ⟨p, 6, none⟩ v') B' ∧ Nx B w B' (w'.setCell ⟨p, 6, none⟩ v')) ∧ w'.cell? ⟨p, 6, none⟩ = some vh ∧ w'.frozen? ⟨p, 6, none⟩ = false := by
  have hk : OwnK w' v' (K ++ [x]) := by
    unfold OwnK
    rw [List.length_append, List.length_singleton, kvs_app]
    exact hown
  obtain ⟨B1, h1, n1⟩ := step_at (Q := RowK v' (K ++ [x])) 1 rfl (frs_sdx _ _ _ _ _ _ _ _) h fun B1 h1 => rowK_next h1 g hk hg hat
  obtain ⟨B2, h2, n2⟩ := step_at (L := [Blk p (stc D P o vh) 50, RowK v' (K ++ [x]), VecA L, DiskA D s]) (Q := VecA (K ++ [x])) 2 rfl ⟨fr_blk _ _ _, fr_rowK _ _, fr_vec _, fr_disk _ _, trivial⟩ h1 fun B1 h1 => ⟨B1, vec_sub h1 hs, Nx.refl _ _⟩
  obtain ⟨_, hb, _⟩ := part_at 0 rfl h2
  obtain ⟨B3, h3, n3⟩ := step_at (L := [Blk p (stc D P o vh) 50, RowK v' (K ++ [x]), VecA (K ++ [x]), DiskA D s]) (Q := Blk p (stc D P o v') 50) 0 rfl ⟨fr_blk _ _ _, fr_rowK _ _, fr_vec _, fr_disk _ _, trivial⟩ (w' := w'.setCell ⟨p, 6, none⟩ v') h2 fun B1 h1 => blk_nextV (i := 6) h1 v'
  exact ⟨⟨B3, h3, (n1.trans n2).trans n3⟩, by rw [cells_at hb.1]; rfl, cells_free hb.1 6⟩
/-- A row's value. -/
theorem own_rowV {w : World} {B : Nat} {E : TypeId} {z : Nat} {v : Value} {n : Nat} {xs : List Value} (h : w.ownsRow B E z v n xs) : ∃ a c, v = .slice a n c ∧ n ≤ c ∧ (1 ≤ n → ∃ g, a = some ⟨g, 0, none⟩) := by
  obtain ⟨_, p⟩ := h
  rcases p with ⟨rfl, z⟩ | ⟨g, cap, cur, rfl, _, _, hn, _⟩
  · exact ⟨none, 0, by rw [z], by omega, fun h => by omega⟩
  · exact ⟨_, cap, rfl, hn, fun _ => ⟨g, rfl⟩⟩
theorem grA2 (w : World) (o : Obj) : Gr w (w.alloc o) := Below.alloc (Below.refl _ _) (Nat.le_refl _) _
theorem erase_last (K : List Kp) (x : Kp) : (K ++ [x]).eraseIdx K.length = K := by
  rw [List.eraseIdx_append_of_length_le (Nat.le_refl _), Nat.sub_self]; simp
set_option maxHeartbeats 4000000 in
theorem vfetch_c (p D P : Nat) (o : So) (ho : o.ok) (vh : Value) (K : List Kp) (hKr : K.length ≤ o.room) (hKl : K.length ≤ 1500000) (s : St) (i : Nat) (hi : i < o.n) (hk : s.calls ≤ 1000000000000) (w : World) (B : Nat → Prop) (h : stars (sdv p D P o vh K s) w B) :
    Calls Try.prog 40 #[.pointer (some ⟨p, 0, none⟩), .int .i64 (i : Nat)] w (FetV p D P o K s i w B) := by
  have C := vread_c p D P o ho vh K s i hi hk w B h
  obtain ⟨i0, hi0, hz0, hz1, hz2⟩ := info_partsV infoK
  obtain ⟨l, hl⟩ : ∃ l, l = (readN s o i).1 := ⟨_, rfl⟩
  obtain ⟨er, her⟩ : ∃ er, er = (readN s o i).2 := ⟨_, rfl⟩
  have HF := Lib.hid (show ∀ (x : Ending) (w' : World), (∃ vh' K' B', x = .returned (.int .i64 er) ∧ stars (sdv p D P o vh' K' s.call) w' B' ∧ Nx B w B' w' ∧ (er = 0 → ∃ a c, K' = ⟨i, a, c, l⟩ :: cutK K o.room) ∧ (er ≠ 0 → K' = K)) → FetV p D P o K s i w B x w' from fun x w' hh => by unfold FetV; rw [← hl, ← her]; exact hh)
  rw [← hl, ← her] at C
  obtain ⟨ad, c, rfl, hc, hg⟩ := ownK_shape (by obtain ⟨_, h1, _⟩ := part_at 1 rfl h; exact h1.1 : OwnK w vh K)
  have HG := Lib.hid hg
  have hr1 := ho.r1
  have hr2 := ho.r2
  have HC := Lib.hid C
  clear hl her h hg C ho
  by_cases h0 : er = 0
  · subst h0
    by_cases hfull : K.length = o.room
    · have t1 : ((K.length : Int) == (o.room : Int)) = true := by simp [hfull]
      obtain ⟨r, hr⟩ : ∃ r, r = K.length - 1 := ⟨_, rfl⟩
      have hrm : (o.room : Int) - 1 = (r : Nat) := by omega
      have hrc : (r : Int) ≤ (c : Int) := by omega
      have hcut : cutK K o.room = K.take r := by unfold cutK; rw [if_pos hfull, hr, hfull]
      have hrl : (K.take r).length = r := by rw [List.length_take]; omega
      have hrK : r ≤ K.length := by omega
      have hr15 : (r : Int) ≤ 1500000 := by omega
      have hrt : ((o.room : Int) - 1).toNat = r := by omega
      have HR := Lib.hid hr
      have HU := Lib.hid hfull
      clear hr hfull
      go_enter Try.func40, Try.ntmps40
      go_wp2_with fail
      refine (HC.out).mono ?_; rintro e u ⟨v, w1, B1, rfl, h1, n1, hown, g1⟩
      obtain ⟨va, vc, hve, _⟩ := own_row hown
      subst hve
      obtain ⟨B2, h2, n2⟩ := sdx_one (i := (i : Int)) h1 g1 hown
      have hb := sdx_blk h2
      have c6 : u.cell? ⟨p, 6, none⟩ = some (.slice ad K.length c) := by rw [cells_at hb]; rfl
      have c3 : u.cell? ⟨p, 3, none⟩ = some (.int .i64 (o.room : Nat)) := by rw [cells_at hb]; rfl
      have f6 := cells_free hb 6
      obtain ⟨B3, h3, n3⟩ := sdx_cut h2 r hrK
      have H3 := Lib.hid h3
      have N3 := Lib.hid ((n1.trans n2).trans n3)
      clear h1 n1 hown h2 n2 hb h3 n3 g1
      go_wp2_with fail
      go_region
      go_wp2_with fail
      go_region
      all_goals
        obtain ⟨W0, hW0⟩ : ∃ W0, W0 = (u.setCell ⟨p, 6, none⟩ (.slice ad r c)).drew.drew := ⟨_, rfl⟩
        have g0 : Gr (u.setCell ⟨p, 6, none⟩ (.slice ad r c)) W0 := by rw [hW0]; exact Below.drew (Below.drew (Gr.refl _))
        rw [← hW0]
        replace H3 := Lib.hid (stars_gr (frs_sdx _ _ _ _ _ _ _ _) H3.out g0)
        replace N3 := Lib.hid (N3.out.trans (Nx.gr g0))
        obtain ⟨K1, hK1⟩ : ∃ K1, K1 = K.take r := ⟨_, rfl⟩
        rw [← hK1] at H3 hcut hrl
        have HLEN := Lib.hid hrl
        have HCUT := Lib.hid hcut
        have HSUB := Lib.hid (show ∀ y ∈ K1 ++ [⟨(i : Nat), va, vc, l⟩], y ∈ K ++ [⟨(i : Int), va, vc, l⟩] from fun y hy => by
          rw [hK1] at hy
          rcases List.mem_append.1 hy with hy | hy
          · exact List.mem_append_left _ (List.mem_of_mem_take hy)
          · exact List.mem_append_right _ hy)
        clear hW0 g0 hK1 hcut hrl c6 c3 f6
        have c6 : W0.cell? ⟨p, 6, none⟩ = some (.slice ad r c) := by rw [cells_at (sdx_blk H3.out)]; rfl
        have RW := sdx_row H3.out
        have hbnd : (r : Int) ≤ 1500000 := by omega
        unfold OwnK at RW
        rw [HLEN.out] at RW
        generalize hkv : kvs K1 = kv at RW
        have HKV := Lib.hid hkv
        clear hkv
        go_wp2_with (first
          | (at_builtin; refine wpList_append_own_at _ rfl _ _ 48 rfl 0 79 i0 (.agg #[.int .i64 0, .slice none 0 0]) 2 32 Try.underlying48 hi0 hz0 hz1 hz2 rfl (by decide) _ r kv rfl (RW.alloc _) ⟨W0.heap.size, 0, none⟩ 1 1 [.int .i64 (i : Nat), .slice va l.length vc] rfl ?c0 ?c1 ?c2 ?c3 ?c4 ?c5 ?_)
          | go_in)
        case c0 => rfl
        case c1 => exact cell_two_new _ _ _ _
        case c2 => intro y hy; simp at hy; rcases hy with rfl | rfl <;> rfl
        case c3 => unfold maxLen; omega
        case c4 => omega
        case c5 => exact Nat.zero_le _
        intro v' w2 hown2 hgrow2 _ hat2
        obtain ⟨a2, e2, hve2, hle2, hg2⟩ := own_rowV hown2
        subst hve2
        obtain ⟨⟨B4, h4, n4⟩, d6, d6f⟩ := sdx_app (x := ⟨(i : Nat), va, vc, l⟩) H3.out HSUB.out (grA2 W0 _) (by rw [HLEN.out, HKV.out]; exact hown2) hgrow2 (hat2.imp id fun e => e.trans (by rw [World.size_alloc]))
        have H4 := Lib.hid h4
        have N4 := Lib.hid (N3.out.trans n4)
        clear h4 n4 hown2 hgrow2 hat2 RW c6
        go_wp2_with fail
        have T := does_pre (f := 39) (sol p D P o (.slice a2 (r + 1) e2) (K1 ++ [(⟨(i : Int), va, vc, l⟩ : Kp)])) (M := [DiskA D s.call]) ⟨fr_disk _ _, trivial⟩ H4.out fun B5 h5 => vturn_c p D P o (.slice a2 (r + 1) e2) (K1 ++ [⟨(i : Nat), va, vc, l⟩]) r ⟨(i : Nat), va, vc, l⟩ (by rw [← HLEN.out]; simp) (by rw [List.length_append, HLEN.out, List.length_singleton]; omega) _ B5 h5
        rw [← HLEN.out, erase_last, HLEN.out] at T
        refine T.mono ?_; rintro e6 u6 ⟨rfl, B6, h6, n6⟩
        have H6 := Lib.hid h6
        have N6 := Lib.hid (N4.out.trans n6)
        clear h6 n6
        go_wp2_with fail
        go_ret
        exact HF.out _ _ ⟨_, _, B6, rfl, H6.out, N6.out, fun _ => ⟨va, vc, by rw [HCUT.out]⟩, fun hh => absurd rfl hh⟩
    · have t1 : ((K.length : Int) == (o.room : Int)) = false := beq_eq_false_iff_ne.2 (by omega)
      have hcut : cutK K o.room = K := by unfold cutK; rw [if_neg hfull]
      obtain ⟨r, hr⟩ : ∃ r, r = K.length := ⟨_, rfl⟩
      have hr15 : (r : Int) ≤ 1500000 := by omega
      rw [← hr] at t1 HC hc
      have HR := Lib.hid hr
      clear hr hfull hKr hKl HG
      go_enter Try.func40, Try.ntmps40
      go_wp2_with fail
      refine (HC.out).mono ?_; rintro e u ⟨v, w1, B1, rfl, h1, n1, hown, g1⟩
      obtain ⟨va, vc, hve, _⟩ := own_row hown
      subst hve
      obtain ⟨B2, h2, n2⟩ := sdx_one (i := (i : Int)) h1 g1 hown
      have hb := sdx_blk h2
      have c6 : u.cell? ⟨p, 6, none⟩ = some (.slice ad r c) := by rw [cells_at hb]; rfl
      have c3 : u.cell? ⟨p, 3, none⟩ = some (.int .i64 (o.room : Nat)) := by rw [cells_at hb]; rfl
      have H2 := Lib.hid h2
      have N2 := Lib.hid (n1.trans n2)
      clear h1 n1 hown h2 n2 hb g1
      go_wp2_with fail
      go_region
      all_goals
        have g0 : Gr u u.drew := Below.drew (Gr.refl _)
        obtain ⟨W0, hW0⟩ : ∃ W0, W0 = u.drew := ⟨_, rfl⟩
        rw [← hW0] at g0 ⊢
        have H3 := Lib.hid (stars_gr (frs_sdx _ _ _ _ _ _ _ _) H2.out g0)
        have N3 := Lib.hid (N2.out.trans (Nx.gr g0))
        obtain ⟨K1, hK1⟩ : ∃ K1, K1 = K := ⟨_, rfl⟩
        have HLEN := Lib.hid (show K1.length = r by rw [hK1]; exact HR.out.symm)
        have HCUT := Lib.hid (show cutK K o.room = K1 by rw [hK1]; exact hcut)
        have HSUB := Lib.hid (show ∀ y ∈ K1 ++ [⟨(i : Nat), va, vc, l⟩], y ∈ K ++ [⟨(i : Int), va, vc, l⟩] from fun y hy => by rw [hK1] at hy; exact hy)
        rw [show stars (sdx p D P o (.slice ad r c) K (K ++ [⟨(i : Int), va, vc, l⟩]) s.call) = stars (sdx p D P o (.slice ad r c) K1 (K ++ [⟨(i : Int), va, vc, l⟩]) s.call) by rw [hK1]] at H3
        clear hW0 g0 hK1 hcut c6 c3 H2 N2
        have c6 : W0.cell? ⟨p, 6, none⟩ = some (.slice ad r c) := by rw [cells_at (sdx_blk H3.out)]; rfl
        have RW := sdx_row H3.out
        have hbnd : (r : Int) ≤ 1500000 := by omega
        unfold OwnK at RW
        rw [HLEN.out] at RW
        generalize hkv : kvs K1 = kv at RW
        have HKV := Lib.hid hkv
        clear hkv
        go_wp2_with (first
          | (at_builtin; refine wpList_append_own_at _ rfl _ _ 48 rfl 0 79 i0 (.agg #[.int .i64 0, .slice none 0 0]) 2 32 Try.underlying48 hi0 hz0 hz1 hz2 rfl (by decide) _ r kv rfl (RW.alloc _) ⟨W0.heap.size, 0, none⟩ 1 1 [.int .i64 (i : Nat), .slice va l.length vc] rfl ?c0 ?c1 ?c2 ?c3 ?c4 ?c5 ?_)
          | go_in)
        case c0 => rfl
        case c1 => exact cell_two_new _ _ _ _
        case c2 => intro y hy; simp at hy; rcases hy with rfl | rfl <;> rfl
        case c3 => unfold maxLen; omega
        case c4 => omega
        case c5 => exact Nat.zero_le _
        intro v' w2 hown2 hgrow2 _ hat2
        obtain ⟨a2, e2, hve2, hle2, hg2⟩ := own_rowV hown2
        subst hve2
        obtain ⟨⟨B4, h4, n4⟩, d6, d6f⟩ := sdx_app (x := ⟨(i : Nat), va, vc, l⟩) H3.out HSUB.out (grA2 W0 _) (by rw [HLEN.out, HKV.out]; exact hown2) hgrow2 (hat2.imp id fun e => e.trans (by rw [World.size_alloc]))
        have H4 := Lib.hid h4
        have N4 := Lib.hid (N3.out.trans n4)
        clear h4 n4 hown2 hgrow2 hat2 RW c6
        go_wp2_with fail
        have T := does_pre (f := 39) (sol p D P o (.slice a2 (r + 1) e2) (K1 ++ [(⟨(i : Int), va, vc, l⟩ : Kp)])) (M := [DiskA D s.call]) ⟨fr_disk _ _, trivial⟩ H4.out fun B5 h5 => vturn_c p D P o (.slice a2 (r + 1) e2) (K1 ++ [⟨(i : Nat), va, vc, l⟩]) r ⟨(i : Nat), va, vc, l⟩ (by rw [← HLEN.out]; simp) (by rw [List.length_append, HLEN.out, List.length_singleton]; omega) _ B5 h5
        rw [← HLEN.out, erase_last, HLEN.out] at T
        refine T.mono ?_; rintro e6 u6 ⟨rfl, B6, h6, n6⟩
        have H6 := Lib.hid h6
        have N6 := Lib.hid (N4.out.trans n6)
        clear h6 n6
        go_wp2_with fail
        go_ret
        exact HF.out _ _ ⟨_, _, B6, rfl, H6.out, N6.out, fun _ => ⟨va, vc, by rw [HCUT.out]⟩, fun hh => absurd rfl hh⟩
  · have HC2 := Lib.hid HC.out
    have HF2 := Lib.hid HF.out
    have t0 : (er != 0) = true := by simpa using h0
    clear HC HF HG
    go_enter Try.func40, Try.ntmps40
    go_wp2_with fail
    refine (HC2.out).mono ?_; rintro e u ⟨v, w1, B1, rfl, h1, n1, hown, g1⟩
    obtain ⟨va, vc, hve, _⟩ := own_row hown
    subst hve
    have H2 := Lib.hid (stars_gr (frs_sdv _ _ _ _ _ _ _) h1 g1)
    have N2 := Lib.hid (n1.trans (Nx.gr g1))
    clear h1 n1 hown g1
    go_wp2_with fail
    go_ret
    exact HF2.out _ _ ⟨_, _, B1, rfl, H2.out, N2.out, fun hh => absurd hh h0, fun _ => rfl⟩
end Go.Proofs.Ytibajmjplpnbmaa
