/- In one text: RnPart, RnGather. -/
import Derived.Test.YtdlomcgkpiejgaaGreatDoorP33
import Derived.Test.YtdlomcgkpiejgaaGreatDoorP36
import Derived.Test.YtdlomcgkpiejgaaGreatDoorP18
import Derived.Test.YtdlomcgkpiejgaaGreatDoorP16
/- The program's reader as a part of its own, beside its disk and its budget: so that a writer can use both, too. -/
namespace Go.Proofs.YtdlomcgkpiejgaaGreatDoor
open Go.RowKit FsPlain CrcPlain OctPlain FramePlain RecPlain RdPlain WrPlain
set_option linter.unusedVariables false
set_option linter.unusedSimpArgs false
set_option maxRecDepth 20000
/-- A reader's own parts: its block, and its queue. -/
def RdP (x D P : Nat) (y : Rs) : Asn := fun w B => (y.opn = true ∧ ∃ vq, stars [Blk x (rdc D P y vq (sumN y.all) false) 96, QueA vq y.queue] w B) ∨ (y.opn = false ∧ stars [Blk x (rdshut y.told (sumN y.all) y.whole) 96, QueA (.slice none 0 0) []] w B)
theorem frs_rd2 (x : Nat) (c : Array Value) (vq : Value) (queue : List ByteArray) : Frs [Blk x c 96, QueA vq queue] := ⟨fr_blk _ _ _, fr_que _ _, trivial⟩
theorem fr_rdp (x D P : Nat) (y : Rs) : Fr (RdP x D P y) where
  fr := fun h o d => h.imp (fun ⟨h1, vq, h⟩ => ⟨h1, vq, (fr_stars (frs_rd2 _ _ _ _)).fr h o d⟩) fun ⟨h1, h⟩ => ⟨h1, (fr_stars (frs_rd2 _ _ _ _)).fr h o d⟩
  lo := fun h => h.elim (fun ⟨_, vq, h⟩ => (fr_stars (frs_rd2 _ _ _ _)).lo h) fun ⟨_, h⟩ => (fr_stars (frs_rd2 _ _ _ _)).lo h
theorem perm_rd (a b c d : Asn) : [a, b, c, d].Perm [a, c, b, d] := (List.Perm.swap c b [d]).cons a
theorem rd_split {x D P : Nat} {m : N3} {w : World} {B : Nat → Prop} (h : RP3 x D P m w B) : stars [RdP x D P m.x, DiskA D m.s, BuA P m.b] w B := by
  have key : ∀ c vq q, stars (rol x D P m.s m.b c vq q) w B → ∃ B1 B2, stars [Blk x c 96, QueA vq q] w B1 ∧ stars [DiskA D m.s, BuA P m.b] w B2 ∧ (∀ b, B1 b → ¬ B2 b) ∧ ∀ b, B b ↔ B1 b ∨ B2 b := fun c vq q k =>
    (stars_app (L := [Blk x c 96, QueA vq q]) (M := [DiskA D m.s, BuA P m.b])).1 (stars_perm (perm_rd _ _ _ _) k)
  rcases h with ⟨h1, vq, h⟩ | ⟨h1, h⟩
  · obtain ⟨B1, B2, k1, k2, a, e⟩ := key _ _ _ h
    exact ⟨B1, B2, .inl ⟨h1, vq, k1⟩, k2, a, e⟩
  · obtain ⟨B1, B2, k1, k2, a, e⟩ := key _ _ _ h
    exact ⟨B1, B2, .inr ⟨h1, k1⟩, k2, a, e⟩
theorem rd_join {x D P : Nat} {m : N3} {w : World} {B : Nat → Prop} (h : stars [RdP x D P m.x, DiskA D m.s, BuA P m.b] w B) : RP3 x D P m w B := by
  obtain ⟨B1, B2, k1, k2, a, e⟩ := h
  have key : ∀ c vq q, stars [Blk x c 96, QueA vq q] w B1 → stars (rol x D P m.s m.b c vq q) w B := fun c vq q k =>
    stars_perm (perm_rd _ _ _ _) ((stars_app (L := [Blk x c 96, QueA vq q]) (M := [DiskA D m.s, BuA P m.b])).2 ⟨B1, B2, k, k2, a, e⟩)
  rcases k1 with ⟨h1, vq, h⟩ | ⟨h1, h⟩
  · exact .inl ⟨h1, vq, key _ _ _ h⟩
  · exact .inr ⟨h1, key _ _ _ h⟩
theorem frs_rd3 (x D P : Nat) (m : N3) : Frs [RdP x D P m.x, DiskA D m.s, BuA P m.b] := ⟨fr_rdp _ _ _ _, fr_disk _ _, fr_bu _ _, trivial⟩
theorem rd_does {x D P : Nat} {m m' : N3} {f : FuncId} {args : Array Value} {v : Value} {w : World} {B : Nat → Prop} {M : List Asn} (hM : Frs M) (h : stars ([RdP x D P m.x, DiskA D m.s, BuA P m.b] ++ M) w B) (k : ∀ B, RP3 x D P m w B → Calls Tryz.prog f args w (Does w B (RP3 x D P m') v)) :
    Calls Tryz.prog f args w (Does w B (stars ([RdP x D P m'.x, DiskA D m'.s, BuA P m'.b] ++ M)) v) :=
  does_pre [RdP x D P m.x, DiskA D m.s, BuA P m.b] hM h fun B1 h1 => (k B1 (rd_join h1)).mono fun e w' ⟨he, B', h', n⟩ => ⟨he, B', rd_split h', n⟩
/-- Next, beside whatever else there is. -/
theorem rd_next {x D P : Nat} {m : N3} (hok : m.ok) (hi : m.inv) (ht : m.x.told ≤ 50000) (hc : m.s.calls ≤ 1000000000000) {w : World} {B : Nat → Prop} {M : List Asn} (hM : Frs M) (h : stars ([RdP x D P m.x, DiskA D m.s, BuA P m.b] ++ M) w B) :
    Calls Tryz.prog 61 #[.pointer (some ⟨x, 0, none⟩)] w (Does w B (stars ([RdP x D P (nextN m).1.x, DiskA D (nextN m).1.s, BuA P (nextN m).1.b] ++ M)) (ansV (nextN m).2)) :=
  rd_does hM h fun B1 h1 => rp_next x D P m hok hi ht hc w B1 h1
theorem rd_close {x D P : Nat} {m : N3} (hi : m.inv) {w : World} {B : Nat → Prop} {M : List Asn} (hM : Frs M) (h : stars ([RdP x D P m.x, DiskA D m.s, BuA P m.b] ++ M) w B) :
    Calls Tryz.prog 34 #[.pointer (some ⟨x, 0, none⟩)] w (Does w B (stars ([RdP x D P (closeN m).x, DiskA D (closeN m).s, BuA P (closeN m).b] ++ M)) (.tuple #[])) :=
  rd_does hM h fun B1 h1 => rp_close x D P m hi w B1 h1
/-- Open, as parts. -/
def RdMade (D P : Nat) (w : World) (B : Nat → Prop) (M : List Asn) (nm : ByteArray) (size : Int) (R : St × Bu × Int × Nat) (e : Ending) (w' : World) : Prop :=
  (R.2.2.1 = 0 ∧ ∃ x, Does w B (stars ([RdP x D P (newRs nm size R.2.2.2), DiskA D R.1, BuA P R.2.1] ++ M)) (.tuple #[.pointer (some ⟨x, 0, none⟩), .int .i64 0]) e w') ∨
  (R.2.2.1 ≠ 0 ∧ Does w B (stars ([DiskA D R.1, BuA P R.2.1] ++ M)) (.tuple #[.pointer none, .int .i64 R.2.2.1]) e w')
theorem rd_open {D P : Nat} {s : St} {b : Bu} {nm : ByteArray} {size : Int} (hsz : I64 size) (hs : s.ok) (hn : nm.size ≤ 24) (hm : rightB nm.data.toList = true) (hc : s.calls ≤ 100000000000) {w : World} {B : Nat → Prop} {M : List Asn} (hM : Frs M) (h : stars ([DiskA D s, BuA P b] ++ M) w B) :
    Calls Tryz.prog 33 #[.pointer (some ⟨D, 0, none⟩), .pointer (some ⟨P, 0, none⟩), .string nm, .int .i64 size] w (RdMade D P w B M nm size (openN s b nm size)) := by
  obtain ⟨B1, h1, nx⟩ := pre_nx [DiskA D s, BuA P b] hM h
  refine (rp_open D P s b nm size hsz hs hn hm hc w B1 h1).mono ?_
  rintro e w' (⟨h0, x, he, B', h', n⟩ | ⟨h0, he, B', h', n⟩)
  · obtain ⟨B3, k, n3⟩ := nx _ w' B' (rd_split h') n
    exact .inl ⟨h0, x, he, B3, k, n3⟩
  · obtain ⟨B3, k, n3⟩ := nx _ w' B' h' n
    exact .inr ⟨h0, he, B3, k, n3⟩
/-- Create, as parts. -/
def WrMade (D P : Nat) (w : World) (B : Nat → Prop) (M : List Asn) (nm : ByteArray) (size : Int) (R : St × Bu × Int) (e : Ending) (w' : World) : Prop :=
  (R.2.2 = 0 ∧ ∃ x, Does w B (stars ([WrA x D P (newWs nm size), DiskA D R.1, BuA P R.2.1] ++ M)) (.tuple #[.pointer (some ⟨x, 0, none⟩), .int .i64 0]) e w') ∨
  (R.2.2 ≠ 0 ∧ Does w B (stars ([DiskA D R.1, BuA P R.2.1] ++ M)) (.tuple #[.pointer none, .int .i64 R.2.2]) e w')
theorem wr_create {D P : Nat} {s : St} {b : Bu} {nm : ByteArray} {size : Int} (hsz : I64 size) (hn : nm.size ≤ 24) (hm : rightB nm.data.toList = true) (hc : s.calls ≤ 100000000000) {w : World} {B : Nat → Prop} {M : List Asn} (hM : Frs M) (h : stars ([DiskA D s, BuA P b] ++ M) w B) :
    Calls Tryz.prog 62 #[.pointer (some ⟨D, 0, none⟩), .pointer (some ⟨P, 0, none⟩), .string nm, .int .i64 size] w (WrMade D P w B M nm size (createM s b nm size)) := by
  obtain ⟨B1, h1, nx⟩ := pre_nx [DiskA D s, BuA P b] hM h
  refine (w_create D P s b nm size hsz hn hm hc w B1 h1).mono ?_
  rintro e w' (⟨h0, x, he, B', h', n⟩ | ⟨h0, he, B', h', n⟩)
  · obtain ⟨B3, k, n3⟩ := nx [WrA x D P (newWs nm size), DiskA D (createM s b nm size).1, BuA P (createM s b nm size).2.1] w' B' h' n
    exact .inl ⟨h0, x, he, B3, k, n3⟩
  · obtain ⟨B3, k, n3⟩ := nx _ w' B' h' n
    exact .inr ⟨h0, he, B3, k, n3⟩
theorem wr_does {x D P : Nat} {m m' : M3} {f : FuncId} {args : Array Value} {v : Value} {w : World} {B : Nat → Prop} {M : List Asn} (hM : Frs M) (h : stars ([WrA x D P m.x, DiskA D m.s, BuA P m.b] ++ M) w B) (k : ∀ B, W3 x D P m w B → Calls Tryz.prog f args w (Does w B (W3 x D P m') v)) :
    Calls Tryz.prog f args w (Does w B (stars ([WrA x D P m'.x, DiskA D m'.s, BuA P m'.b] ++ M)) v) :=
  does_pre (L' := [WrA x D P m'.x, DiskA D m'.s, BuA P m'.b]) [WrA x D P m.x, DiskA D m.s, BuA P m.b] hM h fun B1 h1 => k B1 h1
theorem wr_put {x D P : Nat} {m : M3} (r : ByteArray) (hm : m.ok) (hal : m.x.all.length ≤ 100000) (hc : m.s.calls ≤ 100000000000) {w : World} {B : Nat → Prop} {M : List Asn} (hM : Frs M) (h : stars ([WrA x D P m.x, DiskA D m.s, BuA P m.b] ++ M) w B) :
    Calls Tryz.prog 64 #[.pointer (some ⟨x, 0, none⟩), .string r] w (Does w B (stars ([WrA x D P (putM m r).1.x, DiskA D (putM m r).1.s, BuA P (putM m r).1.b] ++ M)) (.int .i64 (putM m r).2)) :=
  wr_does hM h fun B1 h1 => w_put x D P m r hm hal hc w B1 h1
theorem wr_close {x D P : Nat} {m : M3} (hm : m.ok) (hal : m.x.all.length ≤ 100000) (hc : m.s.calls ≤ 100000000000) {w : World} {B : Nat → Prop} {M : List Asn} (hM : Frs M) (h : stars ([WrA x D P m.x, DiskA D m.s, BuA P m.b] ++ M) w B) :
    Calls Tryz.prog 65 #[.pointer (some ⟨x, 0, none⟩)] w (Does w B (stars ([WrA x D P (closeM m).1.x, DiskA D (closeM m).1.s, BuA P (closeM m).1.b] ++ M)) (closeV m (closeM m).2)) :=
  wr_does hM h fun B1 h1 => w_close x D P m hm hal hc w B1 h1
theorem wr_drop {x D P : Nat} {m : M3} {w : World} {B : Nat → Prop} {M : List Asn} (hM : Frs M) (h : stars ([WrA x D P m.x, DiskA D m.s, BuA P m.b] ++ M) w B) :
    Calls Tryz.prog 63 #[.pointer (some ⟨x, 0, none⟩)] w (Does w B (stars ([WrA x D P (dropM m).x, DiskA D (dropM m).s, BuA P (dropM m).b] ++ M)) (.tuple #[])) :=
  wr_does hM h fun B1 h1 => w_drop x D P m w B1 h1
end Go.Proofs.YtdlomcgkpiejgaaGreatDoor
/- Records read into a row of one's own, so many at most (the program's gather). -/
namespace Go.Proofs.YtdlomcgkpiejgaaGreatDoor
open Go.RowKit FsPlain CrcPlain OctPlain FramePlain RecPlain RdPlain WrPlain
set_option linter.unusedVariables false
set_option linter.unusedSimpArgs false
set_option maxRecDepth 20000
theorem ret_se16 {a b : Value} {x y : Int} (h : a = b) (k : x = y) : Ending.returned (.tuple #[a, .int .i64 x]) = .returned (.tuple #[b, .int .i64 y]) := by rw [h, k]
def sliceLen : Value → Nat
  | .slice _ n _ => n
  | _ => 0
/-- While they are read. -/
def GaAt (x D P : Nat) (m0 : N3) (C : ByteArray) (nn mm : Int) (got : List ByteArray) (M : List Asn) (w : World) (B : Nat → Prop) (v : Value) (wr : World) : Prop :=
  ∃ (l : List ByteArray) (m : N3) (B' : Nat → Prop), (l.length : Int) ≤ mm ∧ ReadF m C nn (got ++ l) ∧ m.x.nm = m0.x.nm ∧ m.b = m0.b ∧ Quiet m0.s m.s ∧ m.s.calls ≤ m0.s.calls + (l.length : Nat) ∧ stars ([RdP x D P m.x, DiskA D m.s, BuA P m.b] ++ ([RowA v l] ++ M)) wr B' ∧ Nx B w B' wr
/-- What is handed out: l, and the reader behind them. -/
structure GaGot (m0 m : N3) (C : ByteArray) (nn : Int) (got : List ByteArray) (mm : Int) (l : List ByteArray) (er : Int) : Prop where
  ok : m.ok
  inv : m.inv
  nm : m.x.nm = m0.x.nm
  told : m.x.told ≤ 50000
  disk : Quiet m0.s m.s
  calls : m.s.calls ≤ m0.s.calls + 4000
  few : er = 0 → m.s.calls ≤ m0.s.calls + 1 + (l.length : Int) ∧ (got ++ l).length + 11 ≤ C.size
  how : (er = 0 ∧ (l.length : Int) = mm ∧ ReadF m C nn (got ++ l) ∧ m.b = m0.b) ∨
    (er = 0 ∧ (l.length : Int) < mm ∧ m.x.opn = false ∧ m.x.bad = false ∧ IsFile nn C (got ++ l) ∧ m.b = m0.b.give 4) ∨
    (er = 6 ∧ l = [] ∧ m.x.opn = false ∧ (∀ L, ¬ IsFile nn C L) ∧ m.b = m0.b.give 4) ∨
    (er = 5 ∧ l = [] ∧ m.x.opn = false ∧ ¬ (m0.s.down = false ∧ m0.s.ahead = -1) ∧ m.b = m0.b.give 4)
theorem shutN_nm (m : N3) : (shutN m).x.nm = m.x.nm := by unfold shutN; split <;> rfl
theorem nextN_nm (m : N3) : (nextN m).1.x.nm = m.x.nm := by
  unfold nextN
  split
  · rfl
  · split
    · unfold fillN
      split
      · exact shutN_nm _
      · split
        · exact shutN_nm _
        · split
          · exact shutN_nm _
          · rfl
    · rfl
theorem shutN_told (m : N3) : (shutN m).x.told = m.x.told := by unfold shutN; split <;> rfl
theorem nextN_told (m : N3) : (nextN m).1.x.told ≤ m.x.told + 1 := by
  unfold nextN
  split
  · exact Nat.le_succ _
  · split
    · unfold fillN
      split
      · rw [show (wrongN m.asked).x.told = m.x.told from shutN_told _]; exact Nat.le_succ _
      · split
        · rw [show (shutN (m.asked.ended (bytesN m))).x.told = m.x.told from shutN_told _]; exact Nat.le_succ _
        · split
          · rw [show (wrongN m.asked).x.told = m.x.told from shutN_told _]; exact Nat.le_succ _
          · exact Nat.le_refl _
    · exact Nat.le_refl _
theorem nextN_calls2 (m : N3) : (nextN m).1.s.calls ≤ m.s.calls + 1 := (nextN_calls m).2.1
set_option maxHeartbeats 4000000 in
theorem gather16_c {x D P : Nat} {m0 : N3} {C : ByteArray} {nn mm : Int} {got : List ByteArray} (hR : ReadF m0 C nn got) (hC : C.size ≤ 3000) (hm : 1 ≤ mm ∧ mm ≤ 9223372036854775807) (hc : m0.s.calls ≤ 10000000) {w : World} {B : Nat → Prop} {M : List Asn} (hM : Frs M) (h : stars ([RdP x D P m0.x, DiskA D m0.s, BuA P m0.b] ++ M) w B) :
    Calls Tryz.prog 35 #[.pointer (some ⟨x, 0, none⟩), .int .i64 mm] w fun e w' => ∃ v l m er, e = .returned (.tuple #[v, .int .i64 er]) ∧ GaGot m0 m C nn got mm l er ∧ ∃ B', stars ([RdP x D P m.x, DiskA D m.s, BuA P m.b] ++ ([RowA v l] ++ M)) w' B' ∧ Nx B w B' w' := by
  obtain ⟨hm1, hm2⟩ := hm
  have START := Lib.hid (show GaAt x D P m0 C nn mm got M w B (.slice none 0 0) w by
    obtain ⟨B2, k2, n2⟩ := part_new (P := RowA (.slice none 0 0) []) (L := [RdP x D P m0.x, DiskA D m0.s, BuA P m0.b] ++ M) (frs_app ⟨fr_rdp _ _ _ _, fr_disk _ _, fr_bu _ _, trivial⟩ hM) h (Gr.refl w) (row_nil w) (fun b hb => hb.elim)
    refine ⟨[], m0, B2, by simp; omega, by rw [List.append_nil]; exact hR, rfl, rfl, Quiet.refl _, by simp, ?_, n2⟩
    exact stars_perm (List.perm_middle (l₁ := [RdP x D P m0.x, DiskA D m0.s, BuA P m0.b]) (a := RowA (.slice none 0 0) []) (l₂ := M)).symm k2)
  have HM := Lib.hid hM
  have HC := Lib.hid hC
  have HCC := Lib.hid hc
  obtain ⟨i0, hi', hz0, hz1, hz2⟩ := info_parts infoS
  clear hR h hM hC hc
  go_enter Tryz.func35, Tryz.ntmps35
  go_wp2_with fail
  go_loopw [6] (fun v wr => GaAt x D P m0 C nn mm got M w B v wr) (fun v _ => 4000 - sliceLen v)
  case atStart => exact START.out
  case round =>
    obtain ⟨l, m, B', hlm, hRd, hnm, hbu, hq, hcl, hst, hnx⟩ := hrel
    have hfew := hRd.few
    rw [List.length_append] at hfew
    obtain ⟨k, hk⟩ : ∃ k, l.length = k := ⟨_, rfl⟩
    have hk9 : (k : Int) ≤ 3000 := by have := HC.out; omega
    obtain ⟨_, hrw, _⟩ := part_at 3 rfl hst
    obtain ⟨sa, cs, rfl, _⟩ := rowE_shape hrw
    have FM : Frs ([RowA (.slice sa l.length cs) l] ++ M) := frs_app ⟨fr_row _ _, trivial⟩ HM.out
    have CN := rd_next hRd.ok hRd.inv (by rw [hRd.told, List.length_append]; have := HC.out; omega) (by have := HCC.out; have := HC.out; omega) FM hst
    have RN := readF_next hRd (by have := HC.out; omega)
    have hnc := nextN_calls2 m
    have hnm2 := (nextN_nm m).trans hnm
    have htd : (nextN m).1.x.told ≤ 50000 := by have h1 := nextN_told m; have h2 := hRd.told; rw [List.length_append] at h2; have := HC.out; omega
    have hfw : (got ++ l).length + 11 ≤ C.size := hRd.few
    have HNX := Lib.hid hnx
    have HST := Lib.hid hst
    have HRD := Lib.hid hRd
    have HBU := Lib.hid hbu
    have HQ := Lib.hid hq
    have HCL := Lib.hid hcl
    obtain ⟨⟨M2, a, pp, er⟩, hM2⟩ : ∃ X, X = nextN m := ⟨_, rfl⟩
    rw [← hM2] at CN RN hnc hnm2 htd
    unfold ansV at CN
    have HNC := Lib.hid hnc
    have HNM := Lib.hid hnm2
    have HNM0 := Lib.hid hnm
    have HTD := Lib.hid htd
    have HFW := Lib.hid hfw
    have HK := Lib.hid hk
    have CNH := Lib.hid CN
    have hkm : (k : Int) ≤ mm := by omega
    simp only [hk]
    clear hlm hst hrw hRd hnm hnm2 htd hfw hbu hq hcl hnx hM2 CN hnc hfew FM hk START
    by_cases hlt : (k : Int) < mm
    · rcases RN with ⟨rfl, rfl, hmore⟩ | ⟨rfl, rfl, hlast⟩
      · have HMO := Lib.hid hmore
        clear hmore
        go_wp2_with fail
        refine CNH.out.mono ?_; rintro e u4 ⟨rfl, B4, h4, n4⟩
        obtain ⟨_, hr4, _⟩ := part_at 3 rfl h4
        have RW := Lib.hid hr4.1
        have H4 := Lib.hid h4
        have N4 := Lib.hid (HNX.out.trans n4)
        clear h4 n4 hr4 CNH
        go_wp2_with (at_builtin; refine wpList_append_own_at _ rfl _ _ 22 rfl 0 9 i0 (.string ⟨#[]⟩) 1 16 Tryz.underlying22 hi' hz0 hz1 hz2 rfl (by decide) (.slice sa k cs) k (strs l) rfl (by have := RW.out; rw [HK.out] at this; exact this.alloc _) ⟨u4.heap.size, 0, none⟩ 1 1 [.string a] rfl rfl (cell_one_new _ _ _) (by simp [Value.oneCell']) (by unfold maxLen; omega) (by omega) (Nat.zero_le _) ?_)
        intro v5 w5 ho5 hg5 _ ha5
        have FM2 : Frs (([RdP x D P M2.x, DiskA D M2.s, BuA P M2.b] : List Asn) ++ ([RowA (.slice sa l.length cs) l] ++ M)) := frs_app ⟨fr_rdp _ _ _ _, fr_disk _ _, fr_bu _ _, trivial⟩ (frs_app ⟨fr_row _ _, trivial⟩ HM.out)
        obtain ⟨B5, h5, n5⟩ := step_at (Q := RowA v5 (l ++ [a])) 3 rfl FM2 H4.out fun B1 h1 => row_app h1 ((Gr.refl u4).alloc (Nat.le_refl _) (.cells #[.string a] 9)) (by rw [HK.out]; exact ho5) (by rw [HK.out]; exact hg5) (by rw [HK.out, World.size_alloc]; exact ha5)
        have hsh : ∃ s5 c5, v5 = .slice s5 (k + 1) c5 := by
          rcases ho5.2 with ⟨e1, e2⟩ | ⟨g, cap, cur, e1, _⟩
          · exact absurd e2 (by omega)
          · exact ⟨_, cap, e1⟩
        obtain ⟨s5, c5, rfl⟩ := hsh
        have REL := Lib.hid (show GaAt x D P m0 C nn mm got M w B (.slice s5 (k + 1) c5) w5 from ⟨l ++ [a], M2, B5, by rw [List.length_append, List.length_singleton, HK.out]; omega, by rw [← List.append_assoc]; exact HMO.out.rd, HNM.out, HMO.out.bud.trans HBU.out, HQ.out.trans HMO.out.disk, by have := HNC.out; have := HCL.out; rw [List.length_append, List.length_singleton]; show M2.s.calls ≤ _; omega, h5, N4.out.trans n5⟩)
        clear ho5 hg5 ha5 h5 n5 H4 RW FM2
        go_wp2_with fail
        refine ⟨REL.out, ?_⟩
        simp [sliceLen]; omega
      · have HLA := Lib.hid hlast
        clear hlast
        by_cases he : er = 0
        · subst he
          go_wp2_with fail
          refine CNH.out.mono ?_; rintro e u4 ⟨rfl, B4, h4, n4⟩
          have H4 := Lib.hid h4
          have N4 := Lib.hid (HNX.out.trans n4)
          clear h4 n4 CNH
          go_wp2_with fail
          go_ret2
          refine ⟨_, l, M2, 0, rfl, ⟨HLA.out.ok, HLA.out.inv, HNM.out, HTD.out, HQ.out.trans HLA.out.disk, by have := HNC.out; have := HCL.out; have := HK.out; show M2.s.calls ≤ _; omega, fun _ => ⟨by have := HNC.out; have := HCL.out; show M2.s.calls ≤ _; omega, HFW.out⟩, ?_⟩, B4, by rw [← HK.out]; exact H4.out, N4.out⟩
          rcases HLA.out.how with ⟨_, h1, h2⟩ | ⟨h0, _⟩ | ⟨h0, _⟩
          · exact .inr (.inl ⟨rfl, by rw [HK.out]; exact hlt, HLA.out.opn, h2, h1, by rw [HLA.out.bud, HBU.out]⟩)
          · cases h0
          · cases h0
        · have he2 : (er != 0) = true := by simpa using he
          go_wp2_with fail
          refine CNH.out.mono ?_; rintro e u4 ⟨rfl, B4, h4, n4⟩
          have H4 := Lib.hid h4
          have N4 := Lib.hid (HNX.out.trans n4)
          clear h4 n4 CNH
          go_wp2_with fail
          go_ret2
          have FM2 : Frs (([RdP x D P M2.x, DiskA D M2.s, BuA P M2.b] : List Asn) ++ ([RowA (.slice sa l.length cs) l] ++ M)) := frs_app ⟨fr_rdp _ _ _ _, fr_disk _ _, fr_bu _ _, trivial⟩ (frs_app ⟨fr_row _ _, trivial⟩ HM.out)
          obtain ⟨B5, h5, n5⟩ := step_at (w' := u4) (Q := RowA (.slice none 0 0) []) 3 rfl FM2 H4.out fun B1 h1 => ⟨_, row_nil u4, Only.refl _ _, fun b hb => hb.elim⟩
          refine ⟨_, [], M2, er, rfl, ⟨HLA.out.ok, HLA.out.inv, HNM.out, HTD.out, HQ.out.trans HLA.out.disk, ?_, (fun k => absurd k he), ?_⟩, B5, h5, N4.out.trans n5⟩
          · have := HNC.out; have := HCL.out; have := HK.out; show M2.s.calls ≤ _; omega
          rcases HLA.out.how with ⟨h0, _⟩ | ⟨h0, h1⟩ | ⟨h0, h1⟩
          · exact absurd h0 he
          · exact .inr (.inr (.inl ⟨h0, rfl, HLA.out.opn, h1, by rw [HLA.out.bud, HBU.out]⟩))
          · exact .inr (.inr (.inr ⟨h0, rfl, HLA.out.opn, fun k => h1 (HQ.out.calm k.1 k.2), by rw [HLA.out.bud, HBU.out]⟩))
    · have hge : ¬ (k : Int) < mm := hlt
      go_wp2_with fail
      go_ret2
      have hrd := HRD.out
      exact ⟨_, l, m, 0, rfl, ⟨hrd.ok, hrd.inv, HNM0.out, (by have h2 := hrd.told; have h3 := HFW.out; have := HC.out; omega), HQ.out, by have := HCL.out; have := HK.out; omega, fun _ => ⟨by have := HCL.out; omega, HFW.out⟩, .inl ⟨rfl, by have := HK.out; omega, hrd, HBU.out⟩⟩, B', by rw [← HK.out]; exact HST.out, HNX.out⟩
/-- A reader that is over hands out none. -/
theorem over_next {m : N3} (h : m.x.opn = false) (hb : m.x.bad = false) : nextN m = (m, noneA 0) := by
  unfold nextN
  rw [if_pos h, if_neg (by rw [hb]; decide)]
set_option maxHeartbeats 4000000 in
theorem gather16_none {x D P : Nat} {m : N3} {mm : Int} (hok : m.ok) (hi : m.inv) (ho : m.x.opn = false) (hb : m.x.bad = false) (ht : m.x.told ≤ 50000) (hm : 1 ≤ mm ∧ mm ≤ 9223372036854775807) (hc : m.s.calls ≤ 1000000000000) {w : World} {B : Nat → Prop} {M : List Asn} (hM : Frs M) (h : stars ([RdP x D P m.x, DiskA D m.s, BuA P m.b] ++ M) w B) :
    Calls Tryz.prog 35 #[.pointer (some ⟨x, 0, none⟩), .int .i64 mm] w (Does w B (stars ([RdP x D P m.x, DiskA D m.s, BuA P m.b] ++ M)) (.tuple #[.slice none 0 0, .int .i64 0])) := by
  obtain ⟨hm1, hm2⟩ := hm
  have CN := fun (u : World) (B1 : Nat → Prop) (k : stars ([RdP x D P m.x, DiskA D m.s, BuA P m.b] ++ M) u B1) => rd_next hok hi ht hc hM k
  rw [over_next ho hb] at CN
  unfold ansV noneA at CN
  have CNH := Lib.hid CN
  have START := Lib.hid (show ∃ B', stars ([RdP x D P m.x, DiskA D m.s, BuA P m.b] ++ M) w B' ∧ Nx B w B' w from ⟨B, h, Nx.refl _ _⟩)
  clear CN h hok hi ho hb ht hc hM
  go_enter Tryz.func35, Tryz.ntmps35
  go_wp2_with fail
  go_loopw [6] (fun v wr => v = .slice none 0 0 ∧ ∃ B', stars ([RdP x D P m.x, DiskA D m.s, BuA P m.b] ++ M) wr B' ∧ Nx B w B' wr) (fun v _ => 0)
  case atStart => exact ⟨rfl, START.out⟩
  case round =>
    obtain ⟨rfl, B', hst, hnx⟩ := hrel
    have C1 := Lib.hid (CNH.out wr B' hst)
    have HNX := Lib.hid hnx
    clear hst hnx START
    have hlt : (0 : Int) < mm := by omega
    go_wp2_with fail
    refine C1.out.mono ?_; rintro e u4 ⟨rfl, B4, h4, n4⟩
    have H4 := Lib.hid h4
    have N4 := Lib.hid (HNX.out.trans n4)
    clear h4 n4
    go_wp2_with fail
    go_ret2
    exact ⟨rfl, B4, H4.out, N4.out⟩
end Go.Proofs.YtdlomcgkpiejgaaGreatDoor
