/- In one text: MgGot. -/
import Derived.Test.YtpmglnghnelenaaGreatP45
import Derived.Test.YtpmglnghnelenaaGreatP11
import Derived.Test.YtpmglnghnelenaaGreatP10
/- What Merge leaves, as parts. -/
namespace Go.Proofs.YtpmglnghnelenaaGreat
open Go.RowKit FsPlain CrcPlain OctPlain FramePlain RecPlain RdPlain RnPlain WrPlain
set_option linter.unusedVariables false
set_option maxRecDepth 20000
def MergeGot (D P : Nat) (s : St) (b : Bu) (F : List (ByteArray × ByteArray)) (out : ByteArray) (size : Int) (u : Bool) (M : List Asn) (w : World) (B : Nat → Prop) (e : Ending) (w' : World) : Prop :=
  ∃ s' b' k c er, e = .returned (.tuple #[.agg #[.int .i64 k, .int .u32 c], .int .i64 er]) ∧ MergeR s b F out size u s' b' k c er ∧ ∃ B', stars ([DiskA D s', BuA P b'] ++ M) w' B' ∧ Nx B w B' w'
/-- A disk, a budget and other parts, made since w. -/
def DM (D P : Nat) (s : St) (b : Bu) (M : List Asn) (w wr : World) : Prop := ∃ B, stars ([DiskA D s, BuA P b] ++ M) wr B ∧ Nx (fun _ => False) w B wr
theorem frs_dm (D P : Nat) (s : St) (b : Bu) {M : List Asn} (hM : Frs M) : Frs ([DiskA D s, BuA P b] ++ M) := ⟨fr_disk _ _, fr_bu _ _, hM⟩
theorem DM.gr {D P : Nat} {s : St} {b : Bu} {M : List Asn} {w wr u : World} (hM : Frs M) (h : DM D P s b M w wr) (g : Gr wr u) : DM D P s b M w u := by
  obtain ⟨B, k, n⟩ := h
  exact ⟨B, stars_gr (frs_dm D P s b hM) k g, n.trans (Nx.gr g)⟩
theorem DM.end {D P : Nat} {s : St} {b : Bu} {M : List Asn} {w wr : World} (h : DM D P s b M w wr) : Gr w wr := by
  obtain ⟨B, _, n⟩ := h
  exact nx_gr n
theorem DM.bud {D P : Nat} {s : St} {b : Bu} {M : List Asn} {w wr : World} (h : DM D P s b M w wr) : BAt wr P b := by
  obtain ⟨B, k, _⟩ := h
  obtain ⟨_, hb, _⟩ := part_at 1 rfl k
  exact hb.at
theorem DM.part {D P : Nat} {s : St} {b : Bu} {M : List Asn} {w wr : World} (h : DM D P s b M w wr) (i : Nat) {Q : Asn} (hi : M[i]? = some Q) : ∃ B1, Q wr B1 := by
  obtain ⟨B, k, _⟩ := h
  obtain ⟨B1, hq, _⟩ := part_at (L := [DiskA D s, BuA P b] ++ M) (i + 2) hi k
  exact ⟨B1, hq⟩
theorem DM.row {D P : Nat} {s : St} {b : Bu} {M : List Asn} {w wr : World} (h : DM D P s b M w wr) (i : Nat) {v : Value} {l : List ByteArray} (hi : M[i]? = some (RowA v l)) : Lies wr v l := by
  obtain ⟨_, hr⟩ := h.part i hi
  exact row_lies hr
theorem DM.blk {D P : Nat} {s : St} {b : Bu} {M : List Asn} {w wr : World} (h : DM D P s b M w wr) (i : Nat) {X : Nat} {c : Array Value} {T : TypeId} (hi : M[i]? = some (Blk X c T)) (j : Nat) : wr.cell? ⟨X, j, none⟩ = c[j]? := by
  obtain ⟨_, hr⟩ := h.part i hi
  exact cells_at hr.1 j
/-- One part more. -/
theorem DM.new {D P : Nat} {s : St} {b : Bu} {M : List Asn} {w wr u : World} {Q : Asn} {B' : Nat → Prop} (hM : Frs M) (h : DM D P s b M w wr) (g : Gr wr u) (q : Q u B') (hn : ∀ x, B' x → wr.heap.size ≤ x) : DM D P s b (Q :: M) w u := by
  obtain ⟨B, k, n⟩ := h
  obtain ⟨B3, k3, n3⟩ := part_new (P := Q) (frs_dm D P s b hM) k g q hn
  exact ⟨B3, stars_perm (List.perm_middle (l₁ := [DiskA D s, BuA P b])).symm k3, n.trans n3⟩
theorem DM.blk_new {D P : Nat} {s : St} {b : Bu} {M : List Asn} {w wr u : World} (hM : Frs M) (h : DM D P s b M w wr) (c : Array Value) (T : TypeId) (hu : u = wr.alloc (.cells c T)) : DM D P s b (Blk wr.heap.size c T :: M) w u := by
  subst hu
  exact h.new (B' := fun b => b = wr.heap.size) hM (Below.alloc (Below.refl _ _) (Nat.le_refl _) _) ⟨heap_alloc_new wr _, fun _ => Iff.rfl⟩ (fun b hb => by rw [hb]; exact Nat.le_refl _)
theorem row_of_own {w u : World} {v : Value} {l : List ByteArray} (h : u.ownsRow w.heap.size 9 1 v l.length (strs l)) : ∃ B, RowA v l u B ∧ ∀ x, B x → w.heap.size ≤ x := by
  refine ⟨fun x => v.ownBlock = some x, ⟨⟨h.1, h.2.imp id fun ⟨g, cap, cur, h1, h2, h3⟩ => ⟨g, cap, cur, h1, Nat.zero_le _, h3⟩⟩, fun b hb => hb, fun b hb => (h.lt b hb).2⟩, fun x hx => (h.lt x hx).1⟩
theorem DM.row_new {D P : Nat} {s : St} {b : Bu} {M : List Asn} {w wr u : World} (hM : Frs M) (h : DM D P s b M w wr) {v : Value} {l : List ByteArray} (g : Gr wr u) (ho : u.ownsRow wr.heap.size 9 1 v l.length (strs l)) : DM D P s b (RowA v l :: M) w u := by
  obtain ⟨B', k, n⟩ := row_of_own ho
  exact h.new hM g k n
/-- A call on the disk alone. -/
theorem DM.disk {D P : Nat} {s s' : St} {b : Bu} {M : List Asn} {w wr : World} {f : FuncId} {args : Array Value} {x : Value} (hM : Frs M) (h : DM D P s b M w wr) (k : ∀ B, DiskA D s wr B → Calls Tryz.prog f args wr (Does wr B (DiskA D s') x)) :
    Calls Tryz.prog f args wr fun e w' => e = .returned x ∧ DM D P s' b M w w' := by
  obtain ⟨B, hs, n⟩ := h
  refine (does_at (L := [DiskA D s, BuA P b] ++ M) 0 rfl (frs_dm D P s b hM) hs k).mono ?_
  rintro e w' ⟨he, B', h', n'⟩
  exact ⟨he, B', h', n.trans n'⟩
theorem DM.clear {D P : Nat} {s s' : St} {b : Bu} {M : List Asn} {w wr : World} {f : FuncId} {args : Array Value} {x : Value} (h : DM D P s b M w wr) (j : ∀ B, stars ([DiskA D s] ++ (BuA P b :: M)) wr B → Calls Tryz.prog f args wr (Does wr B (stars ([DiskA D s'] ++ (BuA P b :: M))) x)) :
    Calls Tryz.prog f args wr fun e w' => e = .returned x ∧ DM D P s' b M w w' := by
  obtain ⟨B, hs, n⟩ := h
  refine (j B hs).mono ?_
  rintro e w' ⟨he, B', h', n'⟩
  exact ⟨he, B', h', n.trans n'⟩
theorem DM.used {D P : Nat} {s : St} {b : Bu} {M : List Asn} {w wr : World} (h : DM D P s b M w wr) : Calls Tryz.prog 18 #[.pointer (some ⟨D, 0, none⟩)] wr fun e w' => e = .returned (.int .i64 (used s.fs : Int)) ∧ Gr wr w' := by
  obtain ⟨B, hs, _⟩ := h
  obtain ⟨B1, ⟨hok, m, L, hD⟩, _⟩ := part_at 0 rfl hs
  exact used_c D m s B1 L wr hok hD
/-- What Merge leaves of all. -/
theorem DM.merge {D P : Nat} {s : St} {b : Bu} {F : List (ByteArray × ByteArray)} {out : ByteArray} {size : Int} {u : Bool} {M : List Asn} {w wr : World} {f : FuncId} {args : Array Value} (h : DM D P s b M w wr) (k : ∀ B, stars ([DiskA D s, BuA P b] ++ M) wr B → Calls Tryz.prog f args wr (MergeGot D P s b F out size u M wr B)) :
    Calls Tryz.prog f args wr fun e w' => ∃ s' b' k c er, e = .returned (.tuple #[.agg #[.int .i64 k, .int .u32 c], .int .i64 er]) ∧ MergeR s b F out size u s' b' k c er ∧ DM D P s' b' M w w' := by
  obtain ⟨B, hs, n⟩ := h
  refine (k B hs).mono ?_
  rintro e w' ⟨s', b', k1, c, er, he, hm, B', h', n'⟩
  exact ⟨s', b', k1, c, er, he, hm, B', h', n.trans n'⟩
/-- List, as what it leaves of all. -/
theorem DM.list {D P : Nat} {s : St} {b : Bu} {M : List Asn} {w wr : World} (hM : Frs M) (h : DM D P s b M w wr) (hu : s.down = false) (ha : s.ahead = -1) (hc : s.calls ≤ 1000000000000) :
    Calls Tryz.prog 13 #[.pointer (some ⟨D, 0, none⟩)] wr fun e w' => ∃ a cc, e = .returned (.tuple #[.slice a s.fs.length cc, .int .i64 0]) ∧ DM D P s.call b M w w' := by
  obtain ⟨B, hs, n⟩ := h
  obtain ⟨B1, B2, h1, h2, ap, eq⟩ := hs
  refine (list_c D s B1 wr h1 hc).mono ?_
  rintro e v' ⟨⟨B1', hd, ho, hn⟩, hres⟩
  have hdn : s.call.down = false := ((quiet_call s).calm hu ha).1
  obtain ⟨B3, k3, n3⟩ : ∃ B', stars ([DiskA D s.call, BuA P b] ++ M) v' B' ∧ Nx B wr B' v' :=
    star_of (fr_stars (L := BuA P b :: M) ⟨fr_bu _ _, hM⟩) h2 ap eq (show DiskA D s.call v' B1' from hd) ⟨ho, hn⟩
  rcases hres with ⟨hd1, _⟩ | ⟨_, x, rfl, hown⟩
  · rw [hdn] at hd1; cases hd1
  · rw [listN_length] at hown
    have : ∃ a c, x = .slice a s.fs.length c := by
      rcases hown.2 with ⟨h1, h2⟩ | ⟨g, cap, cur, h1, _⟩
      · refine ⟨none, 0, ?_⟩
        rw [h1]
        have : s.fs.length = 0 := h2
        rw [this]
      · exact ⟨_, cap, h1⟩
    obtain ⟨a, c, rfl⟩ := this
    exact ⟨a, c, rfl, B3, k3, n.trans n3⟩
theorem dm_made {D P : Nat} {s : St} {b : Bu} {v : Value} {l : List ByteArray} {w u wr : World} {B B2 : Nat → Prop} (h : stars [DiskA D s, RowA v l] u B) (n : Nx (fun _ => False) w B u) (hb : BuA P b wr B2) (n2 : ∀ x, B2 x → u.heap.size ≤ x) (g : Gr u wr) : DM D P s b [RowA v l] w wr := by
  obtain ⟨B3, k3, n3⟩ := part_new (P := BuA P b) (L := [DiskA D s, RowA v l]) ⟨fr_disk _ _, fr_row _ _, trivial⟩ h g hb n2
  exact ⟨B3, stars_perm (List.Perm.swap _ _ _) k3, n.trans n3⟩
end Go.Proofs.YtpmglnghnelenaaGreat
