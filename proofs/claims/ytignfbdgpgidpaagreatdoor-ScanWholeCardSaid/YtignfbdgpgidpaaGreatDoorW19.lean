/- In one text: FsFall, FsRise, FsHas, FsA0, FsTurn, Bud. -/
import Derived.Test.YtignfbdgpgidpaaGreatDoorW18
import Derived.StillTailTactics
import Derived.Test.YtignfbdgpgidpaaGreatDoorW03
import Derived.Test.YtignfbdgpgidpaaGreatDoorW09
import Derived.Laws.OwnMore
import Derived.Test.YtignfbdgpgidpaaGreatDoorW02
import Derived.RegionTactic
import Derived.ChangeAlike
import Derived.Deep.QuietTactic
import Derived.BigQuiet
/- The contract of a file's fall; the order of the names. -/
namespace Go.Proofs.YtignfbdgpgidpaaGreatDoor
open Go.RowKit Go.Maps FsPlain
set_option linter.unusedVariables false
set_option linter.unusedSimpArgs false
set_option maxRecDepth 20000
theorem before_le : ∀ a b : List UInt8, bytesBefore a b = true → a ≤ b
  | [], b, _ => List.nil_le b
  | _ :: _, [], h => by simp [bytesBefore] at h
  | x :: r, y :: q, h => by
    simp only [bytesBefore, Bool.or_eq_true, Bool.and_eq_true, decide_eq_true_eq, beq_iff_eq] at h
    rw [List.cons_le_cons_iff]
    rcases h with h | ⟨h1, h2⟩
    · exact .inl h
    · exact .inr ⟨h1, before_le r q h2⟩
theorem DiskAt.sorted {w : World} {p m : Nat} {s : St} {B : Nat → Prop} {L : List Pl} (h : DiskAt w p s B m L) : (L.map fun x => x.f.name).mergeSort (fun x y => decide (x ≤ y)) = L.map fun x => x.f.name := by
  obtain ⟨es, clock, _, F, _, hD⟩ := h.own
  have hp := sorted_sorted lawS.one _ (fit_keys F) (fit_apart lawS F)
  unfold ents at hD
  simp only [DataW.map.injEq] at hD
  rw [← hD] at hp
  rw [List.pairwise_map] at hp
  refine List.mergeSort_of_pairwise ?_
  rw [List.pairwise_map]
  exact hp.imp fun h => by simpa using before_le _ _ h
def stays (f : F) (k : Int) : Nat := f.kept + min (max k 0).toNat (f.data.length - f.kept)
end Go.Proofs.YtignfbdgpgidpaaGreatDoor
/- The contract of Rise: by a walk of its loop over the names. -/
namespace Go.Proofs.YtignfbdgpgidpaaGreatDoor
open Go.RowKit Go.Maps FsPlain
set_option linter.unusedVariables false
set_option linter.unusedSimpArgs false
set_option maxRecDepth 20000
end Go.Proofs.YtignfbdgpgidpaaGreatDoor
/- A disk of one's own since some world: the calls' contracts, each result handed in as an equation. -/
namespace Go.Proofs.YtignfbdgpgidpaaGreatDoor
open Go.RowKit Go.Maps FsPlain
set_option linter.unusedVariables false
set_option linter.unusedSimpArgs false
set_option maxRecDepth 20000
def Has (w : World) (p : Nat) (s : St) (wr : World) : Prop := ∃ B, Disk wr p s B ∧ Gr w wr ∧ ∀ b, B b → w.heap.size ≤ b
theorem Has.next {w wr w' : World} {p : Nat} {s' : St} {B : Nat → Prop} (g : Gr w wr) (hB : ∀ b, B b → w.heap.size ≤ b) (h : Next wr p s' B w') : Has w p s' w' := by
  obtain ⟨B', d, o, f⟩ := h
  exact ⟨B', d, Below.trans g (o.toBelow g.size hB), fun b hb => by rcases f b hb with h1 | h1; exact hB b h1; exact Nat.le_trans g.size h1⟩
end Go.Proofs.YtignfbdgpgidpaaGreatDoor
/- The program's disk as a part of a world: what Create, Append, Sync, Size, Read leave. -/
namespace Go.Proofs.YtignfbdgpgidpaaGreatDoor
open Go.RowKit Go.Maps FsPlain
set_option linter.unusedVariables false
set_option linter.unusedSimpArgs false
set_option maxRecDepth 20000
def DiskA (p : Nat) (s : St) : Asn := fun w B => Disk w p s B
theorem fr_disk (p : Nat) (s : St) : Fr (DiskA p s) := ⟨fun h o d => Disk.only h o d, fun h => Disk.low h⟩
theorem tells_does {w w' : World} {p : Nat} {s : St} {B : Nat → Prop} {v : Value} {e : Ending} (h : Tells w p s B v e w') : Does w B (DiskA p s) v e w' := by
  obtain ⟨he, B', d, o, f⟩ := h
  exact ⟨he, B', d, o, f⟩
theorem d_create (p : Nat) (s : St) (n : ByteArray) (hn : n.size ≤ 1000) (hm : rightB n.data.toList = true) (h1 : s.calls ≤ 1000000000000) (w : World) (B : Nat → Prop) (h : DiskA p s w B) :
    Calls Tryz.prog 19 #[.pointer (some ⟨p, 0, none⟩), .string n] w (Does w B (DiskA p (createR s n.data.toList).1) (.int .i64 (createR s n.data.toList).2)) :=
  (create_c p s B n w h (by unfold maxLen; omega) hm h1).mono fun _ _ => tells_does
theorem d_append (p : Nat) (s : St) (n t : ByteArray) (hn : n.size ≤ 1000) (hm : rightB n.data.toList = true) (h1 : s.calls ≤ 1000000000000) (ht : t.size ≤ 1000000000) (w : World) (B : Nat → Prop) (h : DiskA p s w B) :
    Calls Tryz.prog 20 #[.pointer (some ⟨p, 0, none⟩), .string n, .string t] w (Does w B (DiskA p (appendR s n.data.toList t.data.toList).1) (.int .i64 (appendR s n.data.toList t.data.toList).2)) :=
  (append_c p s B n t w h (by unfold maxLen; omega) hm h1 (by omega)).mono fun _ _ => tells_does
theorem d_size (p : Nat) (s : St) (n : ByteArray) (hn : n.size ≤ 1000) (hm : rightB n.data.toList = true) (h1 : s.calls ≤ 1000000000000) (w : World) (B : Nat → Prop) (h : DiskA p s w B) :
    Calls Tryz.prog 117 #[.pointer (some ⟨p, 0, none⟩), .string n] w (Does w B (DiskA p s.call) (.tuple #[.int .i64 (sizeR s n.data.toList).1, .int .i64 (sizeR s n.data.toList).2])) :=
  (size_c p s B n w h (by unfold maxLen; omega) hm h1).mono fun _ _ => tells_does
theorem d_read (p : Nat) (s : St) (n : ByteArray) (i k : Nat) (hn : n.size ≤ 1000) (hm : rightB n.data.toList = true) (h1 : s.calls ≤ 1000000000000) (hi : i ≤ 1000000000) (hk : k ≤ 1000000000) (w : World) (B : Nat → Prop) (h : DiskA p s w B) :
    Calls Tryz.prog 118 #[.pointer (some ⟨p, 0, none⟩), .string n, .int .i64 (i : Int), .int .i64 (k : Int)] w (Does w B (DiskA p s.call) (.tuple #[.string (bs (readR s n.data.toList i k).1), .int .i64 (readR s n.data.toList i k).2])) :=
  (read_c p s B n i k w h (by unfold maxLen; omega) hm h1 (by omega) (by omega)).mono fun _ _ => tells_does
end Go.Proofs.YtignfbdgpgidpaaGreatDoor
/- The program's disk: Turn. -/
namespace Go.Proofs.YtignfbdgpgidpaaGreatDoor
open Go.RowKit Go.Maps FsPlain CrcPlain
set_option linter.unusedVariables false
set_option linter.unusedSimpArgs false
set_option maxRecDepth 20000
def FTurned (w : World) (x : Pl) (k0 b : Nat) (e : Ending) (w' : World) : Prop :=
  e = .returned (.tuple #[]) ∧ Only (fun i => x.v.ownBlock = some i) w w' ∧ ∃ l', Turn x.f.data l' k0 (b % 2 ^ (min 32 (8 * x.f.data.length - k0))) ∧ FileAt w' ⟨{ x.f with data := l' }, x.blk, x.v⟩
def TuAt (w : World) (x : Pl) (k0 b m : Nat) (v : Value) (wr : World) : Prop :=
  ∃ (k : Nat) (l' : List UInt8), k ≤ m ∧ v = .int .i64 (k : Int) ∧ Turn x.f.data l' k0 (b % 2 ^ k) ∧ Only (fun i => x.v.ownBlock = some i) w wr ∧ FileAt wr ⟨{ x.f with data := l' }, x.blk, x.v⟩
theorem file_set {w : World} {x : Pl} {l' : List UInt8} {g n cap i : Nat} {y : Nat} (h : FileAt w ⟨{ x.f with data := l' }, x.blk, .slice (some ⟨g, 0, none⟩) n cap⟩) (hne : g ≠ x.blk) (hy : y < 256) :
    FileAt (w.setCell ⟨g, i, none⟩ (.int .u8 (y : Int))).drew ⟨{ x.f with data := l'.set i (UInt8.ofNat y) }, x.blk, .slice (some ⟨g, 0, none⟩) n cap⟩ := by
  obtain ⟨h1, h2⟩ := h
  have hn : l'.length = n := by
    rcases h2.2 with ⟨e, _⟩ | ⟨_, _, _, e, _⟩
    · cases e
    · simp only [Value.slice.injEq] at e; exact e.2.1.symm
  refine ⟨?_, ?_⟩
  · show (w.setCell ⟨g, i, none⟩ (.int .u8 (y : Int))).heap[x.blk]? = _
    rw [(Only.cell1 w g i (.int .u8 (y : Int))).block _ (lt_of_block h1) (fun e => hne e.symm)]
    exact h1
  · have h2' : w.ownsRow 0 5 1 (.slice (some ⟨g, 0, none⟩) n cap) n (Lib.byteCells l') := by rw [← hn]; rw [← hn] at h2; exact h2
    have h3 := (h2'.stored i (.int .u8 (y : Int))).1
    have e : (Lib.byteCells l').set i (.int .u8 (y : Int)) = Lib.byteCells (l'.set i (UInt8.ofNat y)) := by
      unfold Lib.byteCells
      rw [List.map_set]
      congr 1
      rw [UInt8.toNat_ofNat', Nat.mod_eq_of_lt (by omega)]
    rw [e] at h3
    show World.ownsRow _ 0 _ 1 _ (l'.set i _).length _
    rw [List.length_set, hn]
    exact h3
set_option maxHeartbeats 4000000 in
theorem fturn_c (x : Pl) (k0 b : Nat) (w : World) (hF : FileAt w x) (hne : x.v.ownBlock ≠ some x.blk) (hl : x.f.data.length ≤ 16777216) (hk0 : k0 ≤ 8 * x.f.data.length) (hb : b < 4294967296) :
    Calls Tryz.prog 75 #[.pointer (some ⟨x.blk, 0, none⟩), .int .i64 (k0 : Int), .int .u32 (b : Int)] w (FTurned w x k0 b) := by
  obtain ⟨a, c, hv, hnil, hsome⟩ := row_shape hF.2
  obtain ⟨n, hn⟩ : ∃ n, x.f.data.length = n := ⟨_, rfl⟩
  rw [hn] at hv hnil hl hk0
  obtain ⟨m, hm⟩ : ∃ m, min 32 (8 * n - k0) = m := ⟨_, rfl⟩
  have hm32 : m ≤ 32 ∧ k0 + m ≤ 8 * n := by omega
  have c0 : w.cell? ⟨x.blk, 0, none⟩ = some (.slice a n c) := by rw [cells_at hF.1, ← hv]; rfl
  have em : min (32 : Int) (8 * (n : Int) - (k0 : Int)) = (m : Int) := by omega
  have HST : TuAt w x k0 b m (.int .i64 0) w := ⟨0, x.f.data, Nat.zero_le _, rfl, Turn.start _ _ _, Only.refl _ _, hF⟩
  have HST := Lib.hid HST
  have HNE := Lib.hid hne
  have HV := Lib.hid hv
  have HSO := Lib.hid hsome
  have HNI := Lib.hid hnil
  have HN := Lib.hid hn
  have HM := Lib.hid hm
  have w1 : IntKind.i64.wrap (8 * (n : Int)) = 8 * (n : Int) := IntWalk.i64_in _ (by omega)
  have w2 : IntKind.i64.wrap (8 * (n : Int) - (k0 : Int)) = 8 * (n : Int) - (k0 : Int) := IntWalk.i64_in _ (by omega)
  have em2 : (if 8 * (n : Int) - (k0 : Int) < 32 then 8 * (n : Int) - (k0 : Int) else 32) = (m : Int) := by split <;> omega
  clear hF hne hv hsome hnil hn hm
  go_enter Tryz.func75, Tryz.ntmps75
  go_wp2_with fail
  clear em em2 w1 w2 c0
  go_loopw [16] (fun v wr => TuAt w x k0 b m v wr) (fun v _ => m - (intOf v).toNat)
  case atStart => exact HST.out
  case round =>
    obtain ⟨k, l', hk, rfl, ht, ho, hf⟩ := hrel
    by_cases hlt : k < m
    · have q1 : (k : Int) < (m : Int) := by omega
      by_cases hbit : b / 2 ^ k % 2 = 1
      · have e1 := bit_is b k hb hbit
        have hn0 : 0 < n := by omega
        have ha : ∃ g, a = some ⟨g, 0, none⟩ := by
          cases a with
          | none => have := HNI.out rfl; omega
          | some ad =>
            obtain ⟨o1, o2, _⟩ := HSO.out ad rfl
            obtain ⟨g, o, sp⟩ := ad
            simp only at o1 o2
            subst o1 o2
            exact ⟨g, rfl⟩
        obtain ⟨g, rfl⟩ := ha
        have hgb : g ≠ x.blk := fun e => HNE.out (by rw [HV.out, e]; rfl)
        have hll : l'.length = n := by rw [ht.1]; exact HN.out
        obtain ⟨q, hq1⟩ : ∃ q, q = k0 + k := ⟨_, rfl⟩
        have e2 : (k0 : Int) + (k : Int) = (q : Int) := by omega
        have e3 : IntKind.i64.wrap (q : Int) = (q : Int) := IntWalk.i64_in _ (by omega)
        obtain ⟨i, hi⟩ : ∃ i, i = q / 8 := ⟨_, rfl⟩
        obtain ⟨j, hj⟩ : ∃ j, j = q % 8 := ⟨_, rfl⟩
        have e4 : (q : Int) / 8 = (i : Int) := by omega
        have e5 : (q : Int) % 8 = (j : Int) := by omega
        have e6 : (q : Int).tdiv 8 = (i : Int) := by rw [Int.tdiv_eq_ediv_of_nonneg (by omega)]; exact e4
        have e7 : (q : Int).tmod 8 = (j : Int) := by rw [Int.tmod_eq_emod_of_nonneg (by omega)]; exact e5
        have e8 : IntKind.i64.wrap (i : Int) = (i : Int) := IntWalk.i64_in _ (by omega)
        have e9 : IntKind.i64.wrap (j : Int) = (j : Int) := IntWalk.i64_in _ (by omega)
        have hi2 : i < n := by omega
        have hj2 : j < 8 := by omega
        obtain ⟨z, hz⟩ : ∃ z, l'[i]? = some z := ⟨l'[i], List.getElem?_eq_getElem (by omega)⟩
        have hrow : wr.ownsRow 0 5 1 (.slice (some ⟨g, 0, none⟩) n c) n (Lib.byteCells l') := by
          have h2 := hf.2
          rw [HV.out] at h2
          have e : ({ x.f with data := l' } : F).data.length = n := hll
          rw [e] at h2
          exact h2
        have hcell : wr.cell? ⟨g, i, none⟩ = some (.int .u8 (z.toNat : Int)) := by
          have := hrow.cells (g := g) rfl i (.int .u8 (z.toNat : Int)) (by unfold Lib.byteCells; rw [List.getElem?_map, hz]; rfl)
          rw [Addr.add_lit, Nat.zero_add] at this
          exact this
        have hfro : wr.frozen? ⟨g, i, none⟩ = false := by
          rcases hrow.2 with ⟨e, _⟩ | ⟨g', cap, cur, e, _, hg, _⟩
          · cases e
          · simp only [Value.slice.injEq, Option.some.injEq, Addr.mk.injEq] at e
            obtain ⟨⟨rfl, _⟩, _⟩ := e
            exact cells_free hg i
        have hc0 : wr.cell? ⟨x.blk, 0, none⟩ = some (.slice (some ⟨g, 0, none⟩) n c) := by
          have := cells_at hf.1 0
          rw [HV.out] at this
          exact this
        have hfz := hf
        rw [HV.out] at hfz
        obtain ⟨p, hp, hp2⟩ : ∃ p : Nat, p = 2 ^ j ∧ p < 256 := ⟨2 ^ j, rfl, by have := Nat.pow_le_pow_right (n := 2) (by decide) (show j ≤ 7 by omega); omega⟩
        have hsh : IntKind.u8.wrap ((2 : Int) ^ j) = (p : Int) := by rw [hp]; exact shl_at hj2
        obtain ⟨y, hy, hy2⟩ : ∃ y : Nat, y = z.toNat ^^^ p ∧ y < 256 := ⟨_, rfl, Nat.xor_lt_two_pow (n := 8) z.toNat_lt hp2⟩
        have hxor : bits .xor .u8 (z.toNat : Int) (p : Int) = (y : Int) := by rw [hy]; exact u8_xor_nat _ _ z.toNat_lt hp2
        have q2 : (i : Int) < (n : Int) := by omega
        have q3 : (0 : Int) ≤ (i : Int) := by omega
        have NX := Lib.hid (show TuAt w x k0 b m (.int .i64 ((k : Int) + 1)) (wr.setCell ⟨g, i, none⟩ (.int .u8 (y : Int))).drew from by
          refine ⟨k + 1, l'.set i (UInt8.ofNat y), by omega, by rw [Int.natCast_add]; rfl, ?_, ?_, ?_⟩
          · have hon := ht.on hbit (x := z) (c := UInt8.ofNat y) (by rw [← hq1, ← hi]; exact hz) (by rw [← hq1, ← hj, ← hp, UInt8.toNat_ofNat', ← hy]; omega)
            rw [← hq1, ← hi] at hon
            exact hon
          · exact (ho.trans (Only.setCell (B := fun i => x.v.ownBlock = some i) wr (a := ⟨g, i, none⟩) (by show x.v.ownBlock = some g; rw [HV.out]; rfl) _)).trans (Only.drew _ _)
          · rw [HV.out]
            exact file_set hfz hgb hy2)
        clear hf hfz hz hrow hp hy hi hj hq1 hll ho ht hn0 hk hlt hbit
        go_wp2_with fail
        go_region
        go_wp2_with fail
        refine ⟨NX.out, ?_⟩
        simp [intOf]; omega
      · have e1 := bit_not b k hb (by omega)
        have NX := Lib.hid (show TuAt w x k0 b m (.int .i64 ((k : Int) + 1)) wr from ⟨k + 1, l', by omega, by rw [Int.natCast_add]; rfl, ht.off (by omega), ho, hf⟩)
        clear hf ho ht hk hlt hbit
        go_wp2_with fail
        refine ⟨NX.out, ?_⟩
        simp [intOf]; omega
    · obtain rfl : k = m := by omega
      have FN := Lib.hid (show FTurned w x k0 b (.returned (.tuple #[])) wr from ⟨rfl, ho, l', by rw [HN.out, HM.out]; exact ht, hf⟩)
      clear hf ho ht
      go_wp2_with fail
      exact bodyPost_end (results_none rfl _ _ _) rfl FN.out
def turnF (l : List UInt8) (f : F) : F := { f with data := l }
set_option maxHeartbeats 2000000 in
theorem d_turn (p : Nat) (s : St) (n : ByteArray) (k0 b : Nat) (w : World) (B : Nat → Prop) (h : DiskA p s w B) (hn : n.size ≤ maxLen) {f : F} (hg : s.get n.data.toList = some f) (hk0 : k0 ≤ 8 * f.data.length) (hb : b < 4294967296) :
    Calls Tryz.prog 37 #[.pointer (some ⟨p, 0, none⟩), .string n, .int .i64 (k0 : Int), .int .u32 (b : Int)] w fun e w' => e = .returned (.bool true) ∧ ∃ l', Turn f.data l' k0 (b % 2 ^ (min 32 (8 * f.data.length - k0))) ∧ ∃ B', DiskA p (s.upd n.data.toList (turnF l')) w' B' ∧ Nx B w B' w' := by
  obtain ⟨hs, m, L, hD⟩ := h
  rcases hD.look n hn with ⟨hno, _, _⟩ | ⟨x, hx, hfx, hlx⟩
  · rw [hg] at hno; cases hno
  · have hfe : f = x.f := by rw [hg] at hx; exact Option.some.inj hx
    subst hfe
    have hmem := List.mem_of_find?_eq_some hfx
    have hxs := get_mem hg
    have hxl : x.f.data.length ≤ 16777216 := by have h1 := used_le hxs; have h2 := hs.u; have h3 := hs.r1; omega
    have C0 := made_c p m s w hD.heap
    have CT := Lib.hid (fturn_c x k0 b w (hD.file x hmem) (hD.row_ne hmem) hxl hk0 hb)
    have cfs : w.cell? ⟨p, 1, none⟩ = some (.map (some m)) := by rw [cells_at hD.heap]; rfl
    have hlk := hlx w hD.own
    have KEY := Lib.hid (fun e w' (k : FTurned w x k0 b e w') => (show e = .returned (.tuple #[]) ∧ ∃ l', Turn x.f.data l' k0 (b % 2 ^ (min 32 (8 * x.f.data.length - k0))) ∧ ∃ B', DiskA p (s.upd n.data.toList (turnF l')) w' B' ∧ Nx B w B' w' from by
      obtain ⟨he, o, l', ht, hF⟩ := k
      have hlen : l'.length = x.f.data.length := ht.1
      obtain ⟨L', hD'⟩ := hD.put hfx (x' := ⟨turnF l' x.f, x.blk, x.v⟩) (g := turnF l') rfl rfl rfl hF (o.mono fun i e => by simp [plBlocks, e]) (fun i hi => .inl hi)
      refine ⟨he, l', ht, _, ⟨?_, m, L', hD'⟩, ?_, fun b hb => ?_⟩
      · refine ok_upd hs hg (g := turnF l') rfl ?_ ?_
        · show x.f.kept ≤ l'.length
          rw [hlen]; exact hs.k _ hxs
        · show (used s.fs : Int) + (l'.length : Int) ≤ s.room + x.f.data.length
          rw [hlen]; have := hs.u; omega
      · exact o.mono fun i e => plBlocks_B hD hmem i (by simp [plBlocks, e])
      · rcases hb with hb | hb
        · exact .inl hb
        · exact .inr hb.1))
    have hge : (k0 : Int) ≥ 0 := by omega
    have q0 : ¬ (k0 : Int) < 0 := by omega
    clear hD hs hmem hxs hxl hx hfx hlx hk0 hb hg
    go_enter Tryz.func37, Tryz.ntmps37
    go_wp2_with fail
    refine C0.mono ?_; rintro e w2 ⟨rfl, rfl⟩
    go_wp2_with fail
    refine CT.out.mono ?_; intro e w3 k
    obtain ⟨rfl, l', ht, hd⟩ := KEY.out e w3 k
    have HT := Lib.hid ht
    have HD := Lib.hid hd
    clear k ht hd
    go_wp2_with fail
    go_ret
    exact ⟨rfl, l', HT.out, HD.out⟩
end Go.Proofs.YtignfbdgpgidpaaGreatDoor
/- A budget: what it is, what its calls make of it, their contracts. -/
namespace Go.Proofs.YtignfbdgpgidpaaGreatDoor
open Go.RowKit
set_option linter.unusedVariables false
set_option linter.unusedSimpArgs false
set_option maxRecDepth 20000
structure Bu where
  m : Int
  now : Int
  high : Int
structure Bu.ok (b : Bu) : Prop where
  n0 : 0 ≤ b.now
  n1 : b.now ≤ b.high
  h1 : b.high ≤ b.m
  m1 : b.m ≤ 9223372036854775807
def Bu.take (b : Bu) (n : Int) : Bu := if n < 0 ∨ b.m - b.now < n then b else ⟨b.m, b.now + n, max b.high (b.now + n)⟩
def Bu.takeE (b : Bu) (n : Int) : Int := if n < 0 then 1 else if b.m - b.now < n then 9 else 0
def Bu.give (b : Bu) (n : Int) : Bu := if n < 0 then b else ⟨b.m, b.now - min n b.now, b.high⟩
theorem Bu.take_ok {b : Bu} (h : b.ok) (n : Int) : (b.take n).ok := by
  obtain ⟨h1, h2, h3, h4⟩ := h
  unfold Bu.take
  split
  · exact ⟨h1, h2, h3, h4⟩
  · constructor <;> simp only [] <;> omega
theorem Bu.give_ok {b : Bu} (h : b.ok) (n : Int) : (b.give n).ok := by
  obtain ⟨h1, h2, h3, h4⟩ := h
  unfold Bu.give
  split
  · exact ⟨h1, h2, h3, h4⟩
  · constructor <;> simp only [] <;> omega
def bcells (b : Bu) : Array Value := #[.bool true, .int .i64 b.m, .int .i64 b.now, .int .i64 b.high]
def BAt (w : World) (p : Nat) (b : Bu) : Prop := b.ok ∧ w.heap[p]? = some (.cells (bcells b) 113 (0, 0))
theorem BAt.only {w w' : World} {p : Nat} {b : Bu} {C : Nat → Prop} (h : BAt w p b) (g : Only C w w') (hC : ¬ C p) : BAt w' p b :=
  ⟨h.1, by rw [g.block p (lt_of_block h.2) hC]; exact h.2⟩
theorem BAt.gr {w w' : World} {p : Nat} {b : Bu} (h : BAt w p b) (g : Gr w w') : BAt w' p b := h.only (Only.ofGr (B := fun _ => False) g) id
theorem bmade_c (p : Nat) (b : Bu) (w : World) (h : BAt w p b) :
    Calls Tryz.prog 70 #[.pointer (some ⟨p, 0, none⟩)] w fun e w' => e = .returned (.bool true) ∧ w = w' := by
  have c0 : w.cell? ⟨p, 0, none⟩ = some (.bool true) := by rw [cells_at h.2]; rfl
  clear h
  go_enter Tryz.func70, Tryz.ntmps70
  go_wp2_with fail
  go_ret
  exact ⟨rfl, rfl⟩
theorem bleft_c (p : Nat) (b : Bu) (w : World) (h : BAt w p b) :
    Calls Tryz.prog 161 #[.pointer (some ⟨p, 0, none⟩)] w fun e w' => e = .returned (.int .i64 (b.m - b.now)) ∧ Gr w w' := by
  have C := bmade_c p b w h
  have c1 : w.cell? ⟨p, 1, none⟩ = some (.int .i64 b.m) := by rw [cells_at h.2]; rfl
  have c2 : w.cell? ⟨p, 2, none⟩ = some (.int .i64 b.now) := by rw [cells_at h.2]; rfl
  obtain ⟨⟨n0, n1, h1, m1⟩, _⟩ := h
  go_enter Tryz.func161, Tryz.ntmps161
  go_wp2_with fail
  refine C.mono ?_; rintro e w2 ⟨rfl, rfl⟩
  go_wp2_with fail
  go_quiet (fail)
  go_wp2_with fail
  go_ret
  exact ⟨rfl, grN _ _⟩
theorem bnow_c (p : Nat) (b : Bu) (w : World) (h : BAt w p b) :
    Calls Tryz.prog 35 #[.pointer (some ⟨p, 0, none⟩)] w fun e w' => e = .returned (.int .i64 b.now) ∧ w = w' := by
  have C := bmade_c p b w h
  have c2 : w.cell? ⟨p, 2, none⟩ = some (.int .i64 b.now) := by rw [cells_at h.2]; rfl
  clear h
  go_enter Tryz.func35, Tryz.ntmps35
  go_wp2_with fail
  refine C.mono ?_; rintro e w2 ⟨rfl, rfl⟩
  go_wp2_with fail
  go_ret
  exact ⟨rfl, rfl⟩
theorem bhigh_c (p : Nat) (b : Bu) (w : World) (h : BAt w p b) :
    Calls Tryz.prog 38 #[.pointer (some ⟨p, 0, none⟩)] w fun e w' => e = .returned (.int .i64 b.high) ∧ w = w' := by
  have C := bmade_c p b w h
  have c3 : w.cell? ⟨p, 3, none⟩ = some (.int .i64 b.high) := by rw [cells_at h.2]; rfl
  clear h
  go_enter Tryz.func38, Tryz.ntmps38
  go_wp2_with fail
  refine C.mono ?_; rintro e w2 ⟨rfl, rfl⟩
  go_wp2_with fail
  go_ret
  exact ⟨rfl, rfl⟩
theorem bnew_c (m : Int) (w : World) (h : 0 ≤ m) (h2 : m ≤ 9223372036854775807) :
    Calls Tryz.prog 30 #[.int .i64 m] w fun e w' => e = .returned (.pointer (some ⟨w.heap.size, 0, none⟩)) ∧ BAt w' w.heap.size ⟨m, 0, 0⟩ ∧ Gr w w' := by
  go_enter Tryz.func30, Tryz.ntmps30
  go_wp2_with fail
  go_ret
  exact ⟨rfl, ⟨⟨Int.le_refl 0, Int.le_refl 0, h, h2⟩, heap_alloc_new w _⟩, Below.alloc (Below.refl _ _) (Nat.le_refl _) _⟩
theorem btake_of {p : Nat} {b : Bu} {w : World} (h : BAt w p b) {n a c : Int} (h0 : 0 ≤ n) (h1 : n ≤ b.m - b.now) (ha : a = b.now + n) (hc : c = max b.high (b.now + n)) :
    BAt ((w.setCell ⟨p, 2, none⟩ (.int .i64 a)).setCell ⟨p, 3, none⟩ (.int .i64 c)).drew p (b.take n) ∧ Only (fun i => i = p) w ((w.setCell ⟨p, 2, none⟩ (.int .i64 a)).setCell ⟨p, 3, none⟩ (.int .i64 c)).drew := by
  subst ha hc
  refine ⟨⟨Bu.take_ok h.1 n, ?_⟩, ((Only.cell1 _ _ _ _).trans (Only.cell1 _ _ _ _)).trans (Only.drew _ _)⟩
  have e : b.take n = ⟨b.m, b.now + n, max b.high (b.now + n)⟩ := by unfold Bu.take; rw [if_neg (by omega)]
  rw [e]; show ((w.setCell _ _).setCell _ _).heap[p]? = _; rw [cells_set (cells_set h.2 2 _) 3 _]; rfl
theorem bgive_of {p : Nat} {b : Bu} {w : World} (h : BAt w p b) {n a : Int} (h0 : 0 ≤ n) (ha : a = b.now - min n b.now) :
    BAt (w.setCell ⟨p, 2, none⟩ (.int .i64 a)).drew p (b.give n) ∧ Only (fun i => i = p) w (w.setCell ⟨p, 2, none⟩ (.int .i64 a)).drew := by
  subst ha
  refine ⟨⟨Bu.give_ok h.1 n, ?_⟩, (Only.cell1 _ _ _ _).trans (Only.drew _ _)⟩
  have e : b.give n = ⟨b.m, b.now - min n b.now, b.high⟩ := by unfold Bu.give; rw [if_neg (by omega)]
  rw [e]; show (w.setCell _ _).heap[p]? = _; rw [cells_set h.2 2 _]; rfl
def BTaken (p : Nat) (b' : Bu) (w : World) (v : Value) (e : Ending) (w' : World) : Prop := e = .returned v ∧ BAt w' p b' ∧ Only (fun i => i = p) w w'
set_option maxHeartbeats 1000000 in
theorem btake_c (p : Nat) (b : Bu) (n : Int) (w : World) (h : BAt w p b) :
    Calls Tryz.prog 130 #[.pointer (some ⟨p, 0, none⟩), .int .i64 n] w (BTaken p (b.take n) w (.int .i64 (b.takeE n))) := by
  have C := bmade_c p b w h
  have CL := bleft_c p b w h
  have H := Lib.hid h
  obtain ⟨⟨n0, n1, h1, m1⟩, _⟩ := h
  obtain ⟨l, hl⟩ : ∃ l, l = b.m - b.now := ⟨_, rfl⟩
  rw [← hl] at CL
  have HL := Lib.hid hl
  by_cases h3 : n < 0
  · clear hl
    go_enter Tryz.func130, Tryz.ntmps130
    go_wp2_with fail
    refine C.mono ?_; rintro e w2 ⟨rfl, rfl⟩
    go_wp2_with fail
    go_ret
    rw [show b.take n = b by unfold Bu.take; rw [if_pos (.inl h3)]]
    exact ⟨ret_i (by unfold Bu.takeE; rw [if_pos h3]), H.out, Only.refl _ _⟩
  · by_cases h4 : l < n
    · clear hl
      go_enter Tryz.func130, Tryz.ntmps130
      go_wp2_with fail
      refine C.mono ?_; rintro e w2 ⟨rfl, rfl⟩
      go_wp2_with fail
      refine CL.mono ?_; rintro e w2 ⟨rfl, g⟩
      have HG := Lib.hid g
      clear g
      go_wp2_with fail
      go_ret
      rw [show b.take n = b by unfold Bu.take; rw [← HL.out, if_pos (.inr h4)]]
      exact ⟨ret_i (by unfold Bu.takeE; rw [← HL.out, if_neg (by omega), if_pos h4]), H.out.gr HG.out, Only.ofGr HG.out⟩
    · have he : b.takeE n = 0 := by unfold Bu.takeE; rw [← hl, if_neg h3, if_neg h4]
      rw [he]
      have hle : b.now + n ≤ 9223372036854775807 := by omega
      have K := Lib.hid (fun w2 (g : Gr w w2) a c (ha : a = b.now + n) hc => (btake_of (n := n) (a := a) (c := c) (H.out.gr g) (by omega) (by omega) ha hc).imp id (fun o => (Only.ofGr (B := fun i => i = p) g).trans o))
      clear he hl
      go_enter Tryz.func130, Tryz.ntmps130
      go_wp2_with fail
      refine C.mono ?_; rintro e w2 ⟨rfl, rfl⟩
      go_wp2_with fail
      refine CL.mono ?_; rintro e w2 ⟨rfl, g⟩
      have c2 : w2.cell? ⟨p, 2, none⟩ = some (.int .i64 b.now) := by rw [cells_at (H.out.gr g).2]; rfl
      have c3 : w2.cell? ⟨p, 3, none⟩ = some (.int .i64 b.high) := by rw [cells_at (H.out.gr g).2]; rfl
      have f2 := cells_free (H.out.gr g).2 2
      have f3 := cells_free (H.out.gr g).2 3
      have HG := Lib.hid g
      clear g C CL
      go_wp2_with fail
      go_region
      all_goals go_wp2_with fail
      all_goals
        go_ret
        refine ⟨rfl, K.out _ HG.out _ _ ?_ ?_⟩ <;> omega
set_option maxHeartbeats 1000000 in
theorem bgive_c (p : Nat) (b : Bu) (n : Int) (w : World) (h : BAt w p b) :
    Calls Tryz.prog 132 #[.pointer (some ⟨p, 0, none⟩), .int .i64 n] w (BTaken p (b.give n) w (.tuple #[])) := by
  have C := bmade_c p b w h
  have c2 : w.cell? ⟨p, 2, none⟩ = some (.int .i64 b.now) := by rw [cells_at h.2]; rfl
  have f2 := cells_free h.2 2
  have H := Lib.hid h
  obtain ⟨⟨n0, n1, h1, m1⟩, _⟩ := h
  by_cases h3 : n < 0
  · go_enter Tryz.func132, Tryz.ntmps132
    go_wp2_with fail
    refine C.mono ?_; rintro e w2 ⟨rfl, rfl⟩
    go_wp2_with fail
    refine bodyPost_ret (results_none rfl _ _ _) rfl ?_
    rw [show b.give n = b by unfold Bu.give; rw [if_pos h3]]
    exact ⟨rfl, H.out, Only.refl _ _⟩
  · have K := Lib.hid (fun a (ha : a = b.now - min n b.now) => bgive_of (n := n) (a := a) H.out (by omega) ha)
    go_enter Tryz.func132, Tryz.ntmps132
    go_wp2_with fail
    refine C.mono ?_; rintro e w2 ⟨rfl, rfl⟩
    go_wp2_with fail
    go_region
    all_goals go_wp2_with fail
    all_goals
      go_end0
      refine ⟨rfl, K.out _ ?_⟩; omega
end Go.Proofs.YtignfbdgpgidpaaGreatDoor
