/- In one text: FsList, RnRuns. -/
import Derived.Test.YtdlomcgkpiejgaaGreatDoorP26
import Derived.Test.YtdlomcgkpiejgaaGreatDoorP20
import Derived.Test.YtdlomcgkpiejgaaGreatDoorP22
import Derived.Test.YtdlomcgkpiejgaaGreatDoorP00
import Derived.Test.YtdlomcgkpiejgaaGreatDoorP46
import Derived.Test.YtdlomcgkpiejgaaGreatDoorP25
/- The program's disk: List. -/
namespace Go.Proofs.YtdlomcgkpiejgaaGreatDoor
open Go.RowKit FsPlain
set_option linter.unusedVariables false
set_option linter.unusedSimpArgs false
set_option maxRecDepth 20000
/-- The names in order. -/
def listN (s : St) : List ByteArray := ((s.fs.map fun f => f.name).mergeSort (fun x y => decide (x ≤ y))).map bs
theorem listN_length (s : St) : (listN s).length = s.fs.length := by unfold listN; rw [List.length_map, List.length_mergeSort, List.length_map]
/-- What List hands out. -/
def Listed (p : Nat) (s : St) (B : Nat → Prop) (w : World) (e : Ending) (w' : World) : Prop :=
  Next w p s.call B w' ∧ ((s.call.down = true ∧ e = .returned (.tuple #[.slice none 0 0, .int .i64 5])) ∨
    (s.call.down = false ∧ ∃ v, e = .returned (.tuple #[v, .int .i64 0]) ∧ w'.ownsRow w.heap.size 9 1 v (listN s).length (strs (listN s))))
set_option maxRecDepth 20000 in
set_option maxHeartbeats 1000000 in
theorem list_c (p : Nat) (s : St) (B : Nat → Prop) (w : World) (h : Disk w p s B) (h1 : s.calls ≤ 1000000000000) :
    Calls Tryz.prog 12 #[.pointer (some ⟨p, 0, none⟩)] w (Listed p s B w) := by
  obtain ⟨hs, m, L, hD⟩ := h
  have C := call_yes p m s w hD.heap (by have := hs.c0; omega) h1 (by have := hs.a0; omega) (by have := hs.a1; omega)
  have HS := Lib.hid hs
  have HD := Lib.hid hD
  clear hD hs
  have hc : s.call.code = if s.call.down = true then 5 else 0 := rfl
  cases hd : s.call.down
  · rw [hd] at hc
    rw [show s.call.code = 0 from hc] at C
    have HDN := Lib.hid hd
    clear hc hd
    go_enter Tryz.func12, Tryz.ntmps12
    go_wp2_with fail
    refine C.mono ?_; rintro e w2 ⟨rfl, k⟩
    have HK := Lib.hid k
    have D2 := Lib.hid (HD.out.called k)
    have N2 := Lib.hid (next_called HS.out D2.out k.2)
    have CN := Lib.hid (names_c p m s.call B L w2 (ok_call HS.out) D2.out)
    clear k C
    go_wp2_with fail
    refine (CN.out).mono ?_; rintro e w3 ⟨v, rfl, ho, g⟩
    have HO := Lib.hid ho
    have G := Lib.hid g
    have sh : ∃ a n c, v = .slice a n c := by
      rcases ho.2 with ⟨e, _⟩ | ⟨g, cap, cur, e, _⟩
      · exact ⟨none, 0, 0, e⟩
      · exact ⟨_, _, _, e⟩
    obtain ⟨a, n, c, rfl⟩ := sh
    clear ho g
    go_wp2_with fail
    go_ret2
    refine ⟨?_, .inr ⟨HDN.out, _, rfl, ?_⟩⟩
    · obtain ⟨B', hd, ho, hn⟩ := N2.out
      exact ⟨B', hd.only (Only.ofGr (B := fun _ => False) G.out) (fun _ _ e => e), ho.trans (Only.ofGr G.out), hn⟩
    · have hfs : (L.map fun x => x.f.name) = s.fs.map fun f => f.name := by
        have h := D2.out.fs
        have h2 := congrArg (List.map fun f : F => f.name) h
        rw [List.map_map] at h2
        exact h2
      have ho := HO.out
      rw [hfs] at ho
      have e1 : strs (listN s) = ((s.fs.map fun f => f.name).mergeSort (fun x y => decide (x ≤ y))).map encStr := by
        unfold strs listN
        rw [List.map_map]
        rfl
      have e2 : (listN s).length = ((s.fs.map fun f => f.name).mergeSort (fun x y => decide (x ≤ y))).length := by unfold listN; rw [List.length_map]
      rw [e1, e2]
      have hws : w.heap.size ≤ w2.heap.size := HK.out.2.size
      refine ⟨ho.1, ho.2.imp id ?_⟩
      rintro ⟨g, cap, cur, h1, h2, h3⟩
      exact ⟨g, cap, cur, h1, Nat.le_trans hws h2, h3⟩
  · rw [hd] at hc
    rw [show s.call.code = 5 from hc] at C
    have HDN := Lib.hid hd
    clear hc hd
    go_enter Tryz.func12, Tryz.ntmps12
    go_wp2_with fail
    refine C.mono ?_; rintro e w2 ⟨rfl, k⟩
    have N2 := Lib.hid (next_called HS.out (HD.out.called k) k.2)
    clear k C
    go_wp2_with fail
    go_ret2
    exact ⟨N2.out, .inl ⟨HDN.out, rfl⟩⟩
end Go.Proofs.YtdlomcgkpiejgaaGreatDoor
/- What is in the runs of texts; a disk, a budget, a row of rows, while RunsForms looks at them. -/
namespace Go.Proofs.YtdlomcgkpiejgaaGreatDoor
open Go.RowKit FsPlain CrcPlain OctPlain FramePlain RecPlain RdPlain RnPlain WrPlain
set_option linter.unusedVariables false
set_option linter.unusedSimpArgs false
set_option maxRecDepth 20000
theorem sort_mem (l : List ByteArray) (u : Bool) : ∀ s, s ∈ sortT l u → s ∈ l := by
  intro s hs
  cases u
  · exact (sortT_perm l).mem_iff.1 hs
  · exact ((sortU l).2 s).1 hs
theorem runs_mem (m : Nat) (u : Bool) : ∀ (f : Nat) (l r : List ByteArray), r ∈ runsT m u f l → (∀ s ∈ r, s ∈ l) ∧ r.length ≤ l.length
  | 0, l, r, h => by simp [runsT] at h
  | f + 1, l, r, h => by
    by_cases hl : l = []
    · subst hl; rw [runsT_nil] at h; cases h
    · rw [runsT_step hl] at h
      rcases List.mem_cons.1 h with rfl | h
      · refine ⟨fun s hs => List.mem_of_mem_take (sort_mem _ _ s hs), ?_⟩
        have := sortT_le (l.take m) u
        rw [List.length_take] at this
        omega
      · obtain ⟨h1, h2⟩ := runs_mem m u f (l.drop m) r h
        refine ⟨fun s hs => List.mem_of_mem_drop (h1 s hs), ?_⟩
        rw [List.length_drop] at h2
        omega
theorem runs_few (m : Nat) (u : Bool) : ∀ (f : Nat) (l : List ByteArray), (runsT m u f l).length ≤ f
  | 0, l => by simp [runsT]
  | f + 1, l => by
    by_cases hl : l = []
    · subst hl; rw [runsT_nil]; simp
    · rw [runsT_step hl]
      have := runs_few m u f (l.drop m)
      simp only [List.length_cons]; omega
/-- The files of the runs are those of the document. -/
theorem runs_lay {nn : Int} {l r : List ByteArray} {m : Nat} {u : Bool} {f : Nat} (hB : layB nn l = true) (h : r ∈ runsT m u f l) : layB nn r = true := by
  unfold layB at hB ⊢
  rw [Bool.and_eq_true] at hB ⊢
  refine ⟨hB.1, ?_⟩
  rw [allB_iff] at hB ⊢
  exact fun s hs => hB.2 s ((runs_mem m u f l r h).1 s hs)
/-- List, as what it leaves of both. -/
theorem list_star {D P : Nat} {s : St} {b : Bu} {v : World} {B : Nat → Prop} (hst : stars [DiskA D s, BuA P b] v B) (hu : s.down = false) (ha : s.ahead = -1) (hc : s.calls ≤ 1000000000000) :
    Calls Tryz.prog 12 #[.pointer (some ⟨D, 0, none⟩)] v fun e v' => ∃ a c, e = .returned (.tuple #[.slice a s.fs.length c, .int .i64 0]) ∧ ∃ B', stars [DiskA D s.call, BuA P b] v' B' ∧ Nx B v B' v' := by
  obtain ⟨B1, B2, h1, h2, ap, eq⟩ := hst
  refine (list_c D s B1 v h1 hc).mono ?_
  rintro e v' ⟨⟨B1', hd, ho, hn⟩, hres⟩
  have hdn : s.call.down = false := ((quiet_call s).calm hu ha).1
  have key : ∃ B', stars [DiskA D s.call, BuA P b] v' B' ∧ Nx B v B' v' :=
    star_of (fr_stars (L := [BuA P b]) ⟨fr_bu _ _, trivial⟩) h2 ap eq (show DiskA D s.call v' B1' from hd) ⟨ho, hn⟩
  rcases hres with ⟨hd1, _⟩ | ⟨_, x, rfl, hown⟩
  · rw [hdn] at hd1; cases hd1
  · rw [listN_length] at hown
    have : ∃ a c, x = .slice a s.fs.length c := by
      rcases hown.2 with ⟨h1, h2⟩ | ⟨g, cap, cur, h1, _⟩
      · refine ⟨none, 0, ?_⟩
        rw [h1]
        have : s.fs.length = 0 := h2
        rw [this]
      · exact ⟨_, cap, h1⟩
    obtain ⟨a, c, rfl⟩ := this
    exact ⟨a, c, rfl, key⟩
/-- A disk and a budget beside memory that was made from lo on, below hi, which stays as it was in z. -/
def Dx (D P : Nat) (s : St) (b : Bu) (w : World) (lo : Nat) (z v : World) : Prop :=
  ∃ B, stars [DiskA D s, BuA P b] v B ∧ Nx (fun _ => False) w B v ∧ (∀ x, B x → x < lo ∨ z.heap.size ≤ x) ∧ z.heap.size ≤ v.heap.size ∧ ∀ x, lo ≤ x → x < z.heap.size → v.heap[x]? = z.heap[x]?
theorem Dx.db {D P : Nat} {s : St} {b : Bu} {w z v : World} {lo : Nat} (h : Dx D P s b w lo z v) : Db D P s b w v := by
  obtain ⟨B, k, n, _⟩ := h
  exact ⟨B, k, n⟩
theorem dx_made {D P : Nat} {s : St} {b : Bu} {w u z : World} (h : Db D P s b w u) (g : Gr u z) : Dx D P s b w u.heap.size z z := by
  obtain ⟨B, k, n⟩ := h
  exact ⟨B, stars_gr (frs_db D P s b) k g, n.trans (Nx.gr g), fun x hx => .inl ((fr_stars (frs_db D P s b)).lo k x hx), Nat.le_refl _, fun _ _ _ => rfl⟩
theorem Dx.gr {D P : Nat} {s : St} {b : Bu} {w z v v' : World} {lo : Nat} (h : Dx D P s b w lo z v) (g : Gr v v') : Dx D P s b w lo z v' := by
  obtain ⟨B, k, n, a, hs, hb⟩ := h
  exact ⟨B, stars_gr (frs_db D P s b) k g, n.trans (Nx.gr g), a, Nat.le_trans hs g.size, fun x h1 h2 => (g.block x (by omega)).trans (hb x h1 h2)⟩
theorem dx_step {D P : Nat} {s' : St} {b : Bu} {w z v v' : World} {lo : Nat} {B B' : Nat → Prop} (n : Nx (fun _ => False) w B v) (a : ∀ x, B x → x < lo ∨ z.heap.size ≤ x) (hs : z.heap.size ≤ v.heap.size) (hb : ∀ x, lo ≤ x → x < z.heap.size → v.heap[x]? = z.heap[x]?) (h' : stars [DiskA D s', BuA P b] v' B') (n' : Nx B v B' v') : Dx D P s' b w lo z v' := by
  refine ⟨B', h', n.trans n', fun x hx => ?_, Nat.le_trans hs n'.only.size, fun x h1 h2 => ?_⟩
  · rcases n'.new x hx with h1 | h1
    · exact a x h1
    · exact .inr (Nat.le_trans hs h1)
  · rw [n'.only.block x (by omega) (fun hB => by rcases a x hB with h3 | h3 <;> omega)]
    exact hb x h1 h2
/-- A call on the disk alone. -/
theorem Dx.disk {D P : Nat} {s s' : St} {b : Bu} {w z v : World} {lo : Nat} {f : FuncId} {args : Array Value} {x : Value} (h : Dx D P s b w lo z v) (k : ∀ B, DiskA D s v B → Calls Tryz.prog f args v (Does v B (DiskA D s') x)) :
    Calls Tryz.prog f args v fun e v' => e = .returned x ∧ Dx D P s' b w lo z v' := by
  obtain ⟨B, hst, n, a, hs, hb⟩ := h
  refine (does_star (fr_stars (L := [BuA P b]) ⟨fr_bu _ _, trivial⟩) hst k).mono ?_
  rintro e v' ⟨he, B', h', n'⟩
  exact ⟨he, dx_step n a hs hb h' n'⟩
theorem Dx.list {D P : Nat} {s : St} {b : Bu} {w z v : World} {lo : Nat} (h : Dx D P s b w lo z v) (hu : s.down = false) (ha : s.ahead = -1) (hc : s.calls ≤ 1000000000000) :
    Calls Tryz.prog 12 #[.pointer (some ⟨D, 0, none⟩)] v fun e v' => ∃ a c, e = .returned (.tuple #[.slice a s.fs.length c, .int .i64 0]) ∧ Dx D P s.call b w lo z v' := by
  obtain ⟨B, hst, n, a, hs, hb⟩ := h
  refine (list_star hst hu ha hc).mono ?_
  rintro e v' ⟨p, q, he, B', h', n'⟩
  exact ⟨p, q, he, dx_step n a hs hb h' n'⟩
/-- What lies in that memory. -/
theorem Dx.cell {D P : Nat} {s : St} {b : Bu} {w z v : World} {lo : Nat} (h : Dx D P s b w lo z v) {x i : Nat} (h1 : lo ≤ x) (h2 : x < z.heap.size) : v.cell? ⟨x, i, none⟩ = z.cell? ⟨x, i, none⟩ := by
  obtain ⟨B, _, _, _, _, hb⟩ := h
  exact World.cell?_of_block (w := z) (a := ⟨x, i, none⟩) (hb x h1 h2)
theorem Dx.lies {D P : Nat} {s : St} {b : Bu} {w z v : World} {lo : Nat} (h : Dx D P s b w lo z v) {x : Value} {r : List ByteArray} (hl : Lies z x r) (hx : ∀ a n c, x = .slice (some a) n c → a.block < z.heap.size ∧ lo ≤ a.block) : Lies v x r := by
  obtain ⟨a, c, rfl, hc, hr⟩ := hl
  refine ⟨a, c, rfl, hc, hr.imp id ?_⟩
  rintro ⟨g, off, rfl, hrow⟩
  obtain ⟨k1, k2⟩ := hx _ _ _ rfl
  have hs : z.heap.size ≤ v.heap.size := by obtain ⟨B, _, _, _, hs, _⟩ := h; exact hs
  exact ⟨g, off, rfl, Nat.lt_of_lt_of_le hrow.1 hs, fun j y hj => by rw [h.cell k2 k1]; exact hrow.2 j y hj⟩
end Go.Proofs.YtdlomcgkpiejgaaGreatDoor
