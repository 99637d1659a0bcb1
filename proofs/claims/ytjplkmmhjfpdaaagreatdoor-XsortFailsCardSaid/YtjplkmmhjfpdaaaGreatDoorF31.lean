/- In one text: RnSort, RnOrd, RnProg. -/
import Derived.Test.YtjplkmmhjfpdaaaGreatDoorF16
import Derived.Test.YtjplkmmhjfpdaaaGreatDoorF09
import Derived.Sort.OwnSorted
import Derived.Sort.Walk0
import Derived.Lib.SlicesCompact
import Derived.Shelf.Slices.CompactS
import Derived.Test.YtjplkmmhjfpdaaaGreatDoorF18
import Derived.Test.YtjplkmmhjfpdaaaGreatDoorF30
/- A row of strings of one's own, sorted, and its like neighbours put together; plain facts on both. -/
namespace Go.Proofs.YtjplkmmhjfpdaaaGreatDoor
open Go.RowKit Go.Sort LoPlain RnPlain
set_option linter.unusedVariables false
set_option linter.unusedSimpArgs false
set_option maxRecDepth 20000
def raws (l : List ByteArray) : List (List UInt8) := l.map fun s => s.data.toList
theorem strs_raws (l : List ByteArray) : strs l = (raws l).map encStr := by
  unfold strs raws
  rw [List.map_map]
  refine List.map_congr_left fun s _ => ?_
  show Value.string s = Value.string (bs s.data.toList)
  rw [bs_toList]
theorem raws_bs (r : List (List UInt8)) : raws (r.map bs) = r := by
  unfold raws
  rw [List.map_map]
  conv => rhs; rw [← List.map_id r]
  exact List.map_congr_left fun s _ => by simp [bs]
theorem bs_raws (l : List ByteArray) : (raws l).map bs = l := by
  unfold raws
  rw [List.map_map]
  conv => rhs; rw [← List.map_id l]
  exact List.map_congr_left fun s _ => bs_toList s
theorem raws_len (l : List ByteArray) : (raws l).length = l.length := by simp [raws]
theorem le_bytes {a b : List UInt8} : leT (bs a) (bs b) = true ↔ a ≤ b := by
  rw [le_iff]
  unfold ltT
  rw [Lib.toList_data, Lib.toList_data, bytesLess_eq]
  show decide (b < a) = false ↔ _
  rw [decide_eq_false_iff_not]
  exact List.not_lt
theorem le_bytes2 {a b : ByteArray} : leT a b = true ↔ a.data.toList ≤ b.data.toList := by
  rw [← le_bytes, bs_toList, bs_toList]
theorem merge_sortT (l : List ByteArray) : ((raws l).mergeSort fun x y => decide (x ≤ y)).map bs = sortT l false := by
  refine sortT_is ?_ ?_
  · have h := List.pairwise_mergeSort (le := fun (x y : List UInt8) => decide (x ≤ y)) (fun a b c h k => by
      simp only [decide_eq_true_eq] at h k ⊢
      exact List.le_trans h k) (fun a b => by
      simp only [Bool.or_eq_true, decide_eq_true_eq]
      exact List.le_total a b) (raws l)
    unfold Srt
    rw [List.pairwise_map]
    exact h.imp fun {a b} k => le_bytes.2 (by simpa using k)
  · have h := (List.mergeSort_perm (raws l) fun x y => decide (x ≤ y)).map bs
    rwa [bs_raws] at h
theorem keeps_mem {d : List (List UInt8)} (m : Nat) (hm : m ≤ d.length) : (∀ x, x ∈ Lib.compactUpTo d.toArray m ↔ x ∈ d.take m) ∧ (d.Pairwise (fun a b => a ≤ b) → (Lib.compactUpTo d.toArray m).Pairwise (fun a b => a < b) ∧ ∀ x ∈ Lib.compactUpTo d.toArray m, ∀ j : Nat, (h : j < d.length) → m ≤ j + 1 → x ≤ d[j]) := by
  induction m with
  | zero => exact ⟨fun x => by simp [Lib.compactUpTo], fun _ => ⟨by simp [Lib.compactUpTo], fun x hx => by simp [Lib.compactUpTo] at hx⟩⟩
  | succ m ih =>
    obtain ⟨i1, i2⟩ := ih (by omega)
    have hlt : m < d.length := by omega
    have hg : d.toArray[m]! = d[m] := by rw [getElem!_pos d.toArray m (by simpa using hlt)]; simp
    rw [Lib.compactUpTo_succ, hg]
    have htk : d.take (m + 1) = d.take m ++ [d[m]] := by rw [List.take_add_one, List.getElem?_eq_getElem hlt]; rfl
    rw [htk]
    cases hk : Lib.keeps d.toArray m
    · simp only [Bool.false_eq_true, if_false, List.append_nil]
      have hm0 : m ≠ 0 := fun e => by subst e; simp [Lib.keeps] at hk
      have hg1 : d.toArray[m - 1]! = d[m - 1] := by rw [getElem!_pos d.toArray (m - 1) (by simp; omega)]; simp
      have heq : d[m] = d[m - 1] := by
        unfold Lib.keeps at hk
        rw [hg, hg1] at hk
        simp at hk
        exact hk.2
      have hin : d[m] ∈ d.take m := by
        rw [heq]
        exact List.mem_take_iff_getElem.2 ⟨m - 1, by omega, rfl⟩
      refine ⟨fun x => ?_, fun hp => ?_⟩
      · rw [i1 x, List.mem_append]
        exact ⟨.inl, fun h => h.elim id fun h => by rw [List.mem_singleton.1 h]; exact hin⟩
      · obtain ⟨k1, k2⟩ := i2 hp
        exact ⟨k1, fun x hx j hj hmj => k2 x hx j hj (by omega)⟩
    · simp only [if_true]
      refine ⟨fun x => ?_, fun hp => ?_⟩
      · rw [List.mem_append, List.mem_append, i1 x]
      · obtain ⟨k1, k2⟩ := i2 hp
        refine ⟨List.pairwise_append.2 ⟨k1, by simp, fun a ha b hb => ?_⟩, fun x hx j hj hmj => ?_⟩
        · rw [List.mem_singleton.1 hb]
          have hle : a ≤ d[m] := k2 a ha m hlt (by omega)
          by_cases hm0 : m = 0
          · subst hm0; simp [Lib.compactUpTo] at ha
          · have hg1 : d.toArray[m - 1]! = d[m - 1] := by rw [getElem!_pos d.toArray (m - 1) (by simp; omega)]; simp
            have hne : d[m] ≠ d[m - 1] := by
              intro e
              unfold Lib.keeps at hk
              rw [hg, hg1] at hk
              simp [e] at hk
              exact hm0 hk
            have h1 : a ≤ d[m - 1] := k2 a ha (m - 1) (by omega) (by omega)
            have h2 : d[m - 1] ≤ d[m] := (List.pairwise_iff_getElem.1 hp) (m - 1) m (by omega) hlt (by omega)
            rcases List.le_iff_lt_or_eq.1 h2 with h3 | h3
            · exact List.lt_of_le_of_lt h1 h3
            · exact absurd h3.symm hne
        · rcases List.mem_append.1 hx with hx | hx
          · exact k2 x hx j hj (by omega)
          · rw [List.mem_singleton.1 hx]
            by_cases e : j = m
            · subst e; exact List.le_refl _
            · exact (List.pairwise_iff_getElem.1 hp) m j hlt hj (by omega)
theorem compact_sortT (l : List ByteArray) : (Lib.compact (raws (sortT l false))).map bs = sortT l true := by
  have hs : (raws (sortT l false)).Pairwise fun a b => a ≤ b := by
    unfold raws
    rw [List.pairwise_map]
    exact (sortT_srt l false).imp fun {a b} h => le_bytes2.1 h
  obtain ⟨k1, k2⟩ := keeps_mem (d := raws (sortT l false)) (raws (sortT l false)).length (Nat.le_refl _)
  obtain ⟨k3, _⟩ := k2 hs
  have e : Lib.compact (raws (sortT l false)) = Lib.compactUpTo (raws (sortT l false)).toArray (raws (sortT l false)).length := rfl
  rw [← e] at k1 k3
  refine sortT_isU ?_ ?_ fun x => ?_
  · unfold Srt
    rw [List.pairwise_map]
    exact k3.imp fun {a b} h => le_bytes.2 (List.le_of_lt h)
  · refine List.pairwise_map.2 (k3.imp fun {a b} h hab => ?_)
    have : a = b := by
      have := congrArg (fun s : ByteArray => s.data.toList) hab
      simpa [bs] using this
    subst this
    exact List.lt_irrefl _ h
  · rw [List.mem_map]
    constructor
    · rintro ⟨a, ha, rfl⟩
      rw [k1 a, List.take_length] at ha
      obtain ⟨s, h1, rfl⟩ := List.mem_map.1 ha
      rw [bs_toList]
      exact (sortT_perm l).mem_iff.1 h1
    · intro hx
      refine ⟨x.data.toList, ?_, bs_toList x⟩
      rw [k1, List.take_length]
      exact List.mem_map.2 ⟨x, (sortT_perm l).mem_iff.2 hx, rfl⟩
theorem sortT_len (l : List ByteArray) : (sortT l false).length = l.length := (sortT_perm l).length_eq
theorem only_put {w : World} {g q : Nat} {os : Array Obj} (d : Array (List UInt8)) : Only (fun i => i = g) w (grow (putRow encStr (Sort.ahead w q) g 0 d) os) :=
  Only.grown (grownBy_sorted d) fun k h => by cases h; rfl
theorem row_sorted {v : Value} {l : List ByteArray} {w : World} {B : Nat → Prop} {g cap q : Nat} {os : Array Obj} (h : RowA v l w B) (hv : v = .slice (some ⟨g, 0, none⟩) l.length cap) :
    ∃ B', RowA v (sortT l false) (grow (putRow encStr (Sort.ahead w q) g 0 ((raws l).mergeSort fun x y => decide (x ≤ y)).toArray) os) B' ∧ Nx B w B' (grow (putRow encStr (Sort.ahead w q) g 0 ((raws l).mergeSort fun x y => decide (x ≤ y)).toArray) os) := by
  obtain ⟨⟨_, h2⟩, hB, hl⟩ := h
  subst hv
  rcases h2 with ⟨h0, _⟩ | ⟨g', cap', cur, he, _, hb, h3, h4, h5, h6⟩
  · cases h0
  · cases he
    have ho := only_put (w := w) (g := g) (q := q) (os := os) ((raws l).mergeSort fun x y => decide (x ≤ y)).toArray
    have hlen : ((raws l).mergeSort fun x y => decide (x ≤ y)).length = (raws l).length := by simp
    have key := ownsRow_sorted (os := os) (n := q) (base := 0) (e := 9) (ss := raws l) hlen (Nat.zero_le g) hb (by rw [raws_len]; exact h3) h4 h5
    rw [raws_len] at key
    refine ⟨B, ⟨?_, hB, fun b hb' => Nat.lt_of_lt_of_le (hl b hb') ho.size⟩, Nx.of ho fun b hb' => by rw [hb']; exact hB g rfl⟩
    rw [sortT_len, strs_raws, ← merge_sortT, raws_bs]
    exact key
theorem row_holds {v : Value} {l : List ByteArray} {w : World} {B : Nat → Prop} (h : RowA v l w B) : (v = .slice none 0 0 ∧ l = []) ∨ ∃ g cap, v = .slice (some ⟨g, 0, none⟩) l.length cap ∧ Holds encStr w g 0 (raws l).toArray ∧ g < w.heap.size ∧ l.length ≤ cap ∧ l.length ≤ maxLen := by
  obtain ⟨⟨h1, h2⟩, hB, hl⟩ := h
  rcases h2 with ⟨h0, h3⟩ | ⟨g, cap, cur, he, _, hb, h3, h4, h5, h6⟩
  · exact .inl ⟨h0, List.eq_nil_of_length_eq_zero h3⟩
  · refine .inr ⟨g, cap, he, holds_of_block hb ?_, lt_of_block hb, h3, Nat.le_trans h3 h4⟩
    rw [raws_len, ← strs_raws, ← h6, Nat.mul_one]
theorem row_compact {v : Value} {l : List ByteArray} {w : World} {B : Nat → Prop} {g cap q : Nat} (h : RowA v (sortT l false) w B) (hv : v = .slice (some ⟨g, 0, none⟩) l.length cap) :
    ∃ B', RowA (.slice (some ⟨g, 0, none⟩) (Lib.compact (raws (sortT l false))).length cap) (sortT l true) (putRow encStr (Sort.ahead w q) g 0 (Lib.compact (raws (sortT l false)) ++ List.replicate ((raws (sortT l false)).length - (Lib.compact (raws (sortT l false))).length) []).toArray) B' ∧
      Nx B w B' (putRow encStr (Sort.ahead w q) g 0 (Lib.compact (raws (sortT l false)) ++ List.replicate ((raws (sortT l false)).length - (Lib.compact (raws (sortT l false))).length) []).toArray) := by
  obtain ⟨⟨_, h2⟩, hB, hl⟩ := h
  rw [← sortT_len l] at hv
  subst hv
  rcases h2 with ⟨h0, _⟩ | ⟨g', cap', cur, he, _, hb, h3, h4, h5, h6⟩
  · cases h0
  · cases he
    have hc : (Lib.compact (raws (sortT l false))).length ≤ l.length := by
      have h := congrArg List.length (compact_sortT l)
      rw [List.length_map] at h
      rw [h]; exact sortT_le l true
    have hrl : (raws (sortT l false)).length = l.length := by rw [raws_len, sortT_len]
    have e : ∀ d : Array (List UInt8), putRow encStr (Sort.ahead w q) g 0 d = grow (putRow encStr (Sort.ahead w q) g 0 d) #[] := fun d => (grow_empty _).symm
    rw [e]
    have ho := only_put (w := w) (g := g) (q := q) (os := #[]) (Lib.compact (raws (sortT l false)) ++ List.replicate ((raws (sortT l false)).length - (Lib.compact (raws (sortT l false))).length) []).toArray
    refine ⟨B, ⟨?_, fun b hb' => hB b hb', fun b hb' => Nat.lt_of_lt_of_le (hl b hb') ho.size⟩, Nx.of ho fun b hb' => by rw [hb']; exact hB g rfl⟩
    have hst : strs (sortT l true) = (Lib.compact (raws (sortT l false))).map encStr := by rw [strs_raws, ← compact_sortT, raws_bs]
    have hsl : (sortT l true).length = (Lib.compact (raws (sortT l false))).length := by
      have h := congrArg List.length (compact_sortT l)
      rw [List.length_map] at h
      exact h.symm
    rw [sortT_len] at h3
    refine ⟨by rw [hst, hsl]; simp, .inr ⟨g, cap, _, by rw [hsl], Nat.zero_le _, heap_sorted _ hb, by rw [hsl]; omega, h4, by simp [putCells, h5], ?_⟩⟩
    rw [hst, hsl, Nat.mul_one]
    have hcs : cur.size = cap := by rw [h5, Nat.mul_one]
    have ht := take_putCells cur (Lib.compact (raws (sortT l false)) ++ List.replicate ((raws (sortT l false)).length - (Lib.compact (raws (sortT l false))).length) []) (by
      rw [List.length_append, List.length_replicate, hrl]; omega)
    have h7 : ∀ (x : List Value) (n k : Nat), x.take n = (x.take (n + k)).take n := fun x n k => by rw [List.take_take, Nat.min_eq_left (Nat.le_add_right _ _)]
    rw [h7 _ _ ((List.replicate ((raws (sortT l false)).length - (Lib.compact (raws (sortT l false))).length) ([] : List UInt8)).length), ← List.length_append, ht, List.map_append, List.take_append_of_le_length (by simp)]
    exact List.take_of_length_le (by simp)
end Go.Proofs.YtjplkmmhjfpdaaaGreatDoor
/- slices.Sort, slices.Compact over a row of one's own; the program's sorted. -/
namespace Go.Proofs.YtjplkmmhjfpdaaaGreatDoor
open Go.RowKit Go.Shelf Go.Sort LoPlain RnPlain
set_option linter.unusedVariables false
set_option linter.unusedSimpArgs false
set_option maxRecDepth 20000
def compactLaid_ren : Go.Shelf.Ren := ⟨fun | 194 => 120 | n => n, fun | 31 => 22 | 9 => 9 | 3 => 3 | 4 => 4 | 0 => 0 | n => n, fun | n => n⟩
theorem compactLaid : Go.Proofs.Lays.n194 Tryz.prog compactLaid_ren := {
  mixed := by kernel_rfl
  f194 := Tryz.func120.trans (congrArg some (by kernel_rfl))
  t0 := Tryz.underlying0
  a0 := Tryz.isAgg0
  z0 := Tryz.sizeOf0
  v0 := Tryz.zeroValue0
  t3 := Tryz.underlying3
  a3 := Tryz.isAgg3
  z3 := Tryz.sizeOf3
  v3 := Tryz.zeroValue3
  t4 := Tryz.underlying4
  a4 := Tryz.isAgg4
  z4 := Tryz.sizeOf4
  v4 := Tryz.zeroValue4
  t9 := Tryz.underlying9
  a9 := Tryz.isAgg9
  z9 := Tryz.sizeOf9
  v9 := Tryz.zeroValue9
  t31 := Tryz.underlying22
  a31 := Tryz.isAgg22
  z31 := Tryz.sizeOf22
  v31 := Tryz.zeroValue22 }
theorem sort_row {v : Value} {l : List ByteArray} {w : World} {B : Nat → Prop} (h : RowA v l w B) (hl : l.length ≤ 1000000) :
    Calls Tryz.prog 104 #[v] w (Does w B (RowA v (sortT l false)) (.tuple #[])) := by
  rcases row_holds h with ⟨rfl, rfl⟩ | ⟨g, cap, hv, hH, hg, hc, _⟩
  · refine (AnyM.slices_Sort_string_none sortLaid none 0 w).mono ?_
    rintro e w' ⟨rfl, rfl⟩
    exact ⟨rfl, B, h, Nx.refl _ _⟩
  · have C := AnyM.slices_Sort_string sortLaid g 0 cap (raws l) w hH hg (by rw [raws_len]; omega)
    rw [raws_len] at C
    have hv2 := hv
    subst hv
    refine C.mono ?_
    rintro e w' ⟨rfl, n, os, rfl⟩
    exact ⟨rfl, row_sorted h hv2⟩
theorem compact_row {v : Value} {l : List ByteArray} {w : World} {B : Nat → Prop} (h : RowA v (sortT l false) w B) (hl : l.length ≤ 1000000) :
    Calls Tryz.prog 120 #[v] w fun e w' => ∃ v', Does w B (RowA v' (sortT l true)) v' e w' := by
  rcases row_holds h with ⟨rfl, h0⟩ | ⟨g, cap, hv, hH, hg, hc, _⟩
  · refine (Any.slices_Compact_string_empty compactLaid none 0 w).mono ?_
    rintro e w' ⟨rfl, rfl⟩
    have hl0 : l = [] := by
      have := sortT_len l
      rw [h0] at this
      exact List.eq_nil_of_length_eq_zero this.symm
    subst hl0
    exact ⟨_, rfl, B, h, Nx.refl _ _⟩
  · have C := Any.slices_Compact_string compactLaid g 0 cap (raws (sortT l false)) w hH (by rw [raws_len, sortT_len]; omega) (by rw [raws_len]; exact hc)
    rw [raws_len] at C
    have hv2 := hv
    rw [sortT_len] at hv2
    subst hv
    refine C.mono ?_
    rintro e w' ⟨rfl, q, rfl⟩
    have k := row_compact (q := q) h hv2
    rw [raws_len] at k
    exact ⟨_, rfl, k⟩
theorem sorted_row {v : Value} {l : List ByteArray} {u : Bool} {w : World} {B : Nat → Prop} (h : RowA v l w B) (hl : l.length ≤ 1000000) :
    Calls Tryz.prog 98 #[v, .bool u] w fun e w' => ∃ v', Does w B (RowA v' (sortT l u)) v' e w' := by
  have C := Lib.hid (sort_row h hl)
  have C2 := Lib.hid (fun (u : World) (B1 : Nat → Prop) (k : RowA v (sortT l false) u B1) => compact_row k hl)
  have sh : ∃ a n c, v = .slice a n c := by
    obtain ⟨a, c, e, _⟩ := rowE_shape h
    exact ⟨a, _, c, e⟩
  obtain ⟨a, n, c, rfl⟩ := sh
  clear h hl
  cases u
  · go_enter Tryz.func98, Tryz.ntmps98
    go_wp2_with fail
    refine C.out.mono ?_; rintro e w1 ⟨rfl, B1, k1, n1⟩
    have K := Lib.hid k1
    clear k1
    go_wp2_with fail
    go_ret
    exact ⟨_, rfl, B1, K.out, n1⟩
  · go_enter Tryz.func98, Tryz.ntmps98
    go_wp2_with fail
    refine C.out.mono ?_; rintro e w1 ⟨rfl, B1, k1, n1⟩
    have K := Lib.hid k1
    clear k1
    go_wp2_with fail
    refine (C2.out _ _ K.out).mono ?_; rintro e w2 ⟨v2, rfl, B2, k2, n2⟩
    have K2 := Lib.hid k2
    clear k2
    go_wp2_with fail
    go_ret
    exact ⟨_, rfl, B2, K2.out, n1.trans n2⟩
theorem sorted16_c {v : Value} {l : List ByteArray} {u : Bool} {w : World} {B : Nat → Prop} {M : List Asn} (hM : Frs M) (h : stars ([RowA v l] ++ M) w B) (hl : l.length ≤ 1000000) :
    Calls Tryz.prog 98 #[v, .bool u] w fun e w' => ∃ v', Does w B (stars ([RowA v' (sortT l u)] ++ M)) v' e w' := by
  obtain ⟨B1, B2, p, r, a, e⟩ := h
  refine (sorted_row p hl).mono ?_
  rintro x w' ⟨v', he, B', q, n⟩
  obtain ⟨B3, k, n3⟩ := star_of (fr_stars hM) r a e q n
  exact ⟨v', he, B3, k, n3⟩
end Go.Proofs.YtjplkmmhjfpdaaaGreatDoor
/- The program's Form: what it leaves of a disk and a budget. -/
namespace Go.Proofs.YtjplkmmhjfpdaaaGreatDoor
open Go.RowKit FsPlain CrcPlain OctPlain FramePlain RecPlain RdPlain RnPlain WrPlain
set_option linter.unusedVariables false
set_option linter.unusedSimpArgs false
set_option maxRecDepth 20000
theorem stars_mono {L : List Asn} {w : World} {B : Nat → Prop} (M : List Asn) (h : stars (L ++ M) w B) : ∃ B', stars L w B' ∧ Nx B w B' w := by
  obtain ⟨B1, B2, h1, _, _, e⟩ := stars_app.1 h
  exact ⟨B1, h1, Only.refl _ _, fun b hb => .inl ((e b).2 (.inl hb))⟩
theorem swap_star {P Q : Asn} {w : World} {B : Nat → Prop} (h : stars [P, Q] w B) : stars [Q, P] w B := stars_perm (List.Perm.swap Q P []) h
theorem frs_db2 (D P : Nat) (s : St) (b : Bu) : Frs [DiskA D s, BuA P b] := ⟨fr_disk _ _, fr_bu _ _, trivial⟩
theorem fo_rest {x D P : Nat} {y : Rs} {s : St} {b : Bu} (M : List Asn) {w : World} {B : Nat → Prop} (h : stars ([RdP x D P y, DiskA D s, BuA P b] ++ M) w B) : ∃ B', stars ([BuA P b] ++ [DiskA D s]) w B' ∧ Nx B w B' w := by
  obtain ⟨B1, h1, n1⟩ := stars_mono M h
  obtain ⟨B2, h2, n2⟩ := stars_drop h1
  exact ⟨B2, swap_star h2, n1.trans n2⟩
theorem fo_got {D P : Nat} {s : St} {b : Bu} {C inn out : ByteArray} {size m : Int} {u : Bool} {w : World} {B : Nat → Prop} {s' : St} {b' : Bu} {k er : Int} {w1 w2 : World} {B1 B2 : Nat → Prop} (hF : FormR s b C inn out size m u s' (b'.give m) k er) (n1 : Nx B w B1 w1) (h : stars ([BuA P (b'.give m)] ++ [DiskA D s']) w2 B2) (n2 : Nx B1 w1 B2 w2) :
    FormGot D P s b C inn out size m u w B (.returned (.tuple #[.int .i64 k, .int .i64 er])) w2 :=
  ⟨s', b'.give m, k, er, rfl, hF, B2, swap_star h, n1.trans n2⟩
theorem sort_of {l : List ByteArray} {u : Bool} {x : ByteArray} (h : x ∈ sortT l u) : x ∈ l := by
  cases u
  · exact (sortT_perm l).mem_iff.1 h
  · exact ((sortU l).2 x).1 h
theorem FoK.sizes2 {s : St} {b : Bu} {C inn out : ByteArray} {size m : Int} {u : Bool} {i : Nat} {got l : List ByteArray} {r : N3} (h : FoK s b C inn out size m u i got l r) (q : Bool) : ∀ x ∈ sortT l q, (x.size : Int) = size := fun x hx => h.sizes x (sort_of hx)
theorem FoK.sizeB {s : St} {b : Bu} {C inn out : ByteArray} {size m : Int} {u : Bool} {i : Nat} {got l : List ByteArray} {r : N3} (h : FoK s b C inn out size m u i got l r) : sizeB size = true := by
  rcases h.how with ⟨h1, _⟩ | ⟨_, _, h1, _⟩
  · rw [← h1.size]; exact h1.ok.z
  · have h2 := h1.1
    unfold layB at h2
    rw [Bool.and_eq_true] at h2
    exact h2.1
def FoAt (x D P : Nat) (s : St) (b : Bu) (C inn out : ByteArray) (size m : Int) (u : Bool) (w : World) (B : Nat → Prop) (v : Value) (wr : World) : Prop :=
  ∃ (i : Nat) (got : List ByteArray) (r : N3) (B' : Nat → Prop), v = .int .i64 (i : Int) ∧ FoJ s b C inn out size m u i got r ∧ stars ([RdP x D P r.x, DiskA D r.s, BuA P r.b] ++ []) wr B' ∧ Nx B w B' wr
theorem perm_run (a b c d : Asn) : ([a, b, c] ++ ([d] ++ [])).Perm ([d] ++ [a, b, c]) := by
  show [a, b, c, d].Perm [d, a, b, c]
  exact (List.perm_append_comm (l₁ := [a, b, c]) (l₂ := [d]))
theorem perm_run2 (a b c d : Asn) : ([d] ++ [a, b, c]).Perm ([b, c] ++ [a, d]) := by
  show [d, a, b, c].Perm [b, c, a, d]
  exact (List.perm_append_comm (l₁ := [d, a]) (l₂ := [b, c])).trans ((List.Perm.refl [b, c]).append (List.Perm.swap a d []))
theorem perm_run3 (a b c d : Asn) : ([b, c] ++ [a, d]).Perm ([a, b, c] ++ [d]) := by
  show [b, c, a, d].Perm [a, b, c, d]
  exact ((List.perm_append_comm (l₁ := [b, c]) (l₂ := [a])).append_right [d])
set_option maxHeartbeats 8000000 in
theorem form16_c {D P : Nat} {s : St} {b : Bu} {C inn out : ByteArray} {size m : Int} (hs : I64 size) (hm : I64 m) (u : Bool) (hC : HasD s inn.data.toList C) (hz : C.size ≤ 5000) (hi : inn.size ≤ 24) (hr : rightB inn.data.toList = true) (ho : out.size ≤ 18) (hn : Names16 s inn out) (hc : s.calls ≤ 1000000) {w : World} {B : Nat → Prop} (hT : TabB w B) (h : stars [DiskA D s, BuA P b] w B) :
    Calls Tryz.prog 67 #[.pointer (some ⟨D, 0, none⟩), .pointer (some ⟨P, 0, none⟩), .string inn, .string out, .int .i64 size, .int .i64 m, .bool u] w (FormGot D P s b C inn out size m u w B) := by
  have hsok : s.ok := by
    obtain ⟨_, hd, _⟩ := part_at 0 rfl h
    exact hd.1
  have hbok : b.ok := by
    obtain ⟨_, hb, _⟩ := part_at 1 rfl h
    exact hb.1
  obtain ⟨hm1, hm2⟩ := hm
  by_cases hm0 : m < 1
  · have F := Lib.hid (form_arg (s := s) (b := b) (C := C) (inn := inn) (out := out) (size := size) (u := u) (show ¬ 1 ≤ m by omega))
    have H := Lib.hid h
    clear hs hC hz hi hr ho hn hc hT h hsok hbok
    go_enter_defers Tryz.func67, Tryz.ntmps67
    go_wp2_with fail
    exact ⟨_, results_tmp2 rfl _ _ _, s, b, 0, 1, rfl, F.out, B, H.out, Nx.refl _ _⟩
  · have hm3 : 1 ≤ m := by omega
    have CT := Lib.hid (does_at (f := 91) (Q := BuA P (b.take m)) 1 rfl (frs_db2 D P s b) h fun B1 h1 => bu_take P b m w B1 h1)
    obtain ⟨e0, he0⟩ : ∃ e0, b.takeE m = e0 := ⟨_, rfl⟩
    rw [he0] at CT
    by_cases ht : e0 = 0
    · subst ht
      have hbt : (b.take m).ok := Bu.take_ok hbok m
      have CO := Lib.hid (fun (w1 : World) (B1 : Nat → Prop) (k : stars ([DiskA D s, BuA P (b.take m)] ++ []) w1 B1) => rd_open (nm := inn) (size := size) hs hsok hi hr (by omega) (M := []) trivial k)
      have hOF := open_f (size := size) hC hsok hbt hi hr
      have hOC : (openN s (b.take m) inn size).1.calls ≤ s.calls + 10 := by have := (openN_calls s (b.take m) inn size).2; omega
      obtain ⟨R, hR⟩ : ∃ R, openN s (b.take m) inn size = R := ⟨_, rfl⟩
      rw [hR] at hOF hOC CO
      by_cases hop : R.2.2.1 = 0
      · have hJ0 : FoJ s b C inn out size m u 0 [] ⟨R.1, R.2.1, newRs inn size R.2.2.2⟩ := by
          rcases hOF with ⟨_, h4, h5, h6, h7⟩ | ⟨h0, _⟩
          · exact foJ_start hm3 he0 rfl h4 h5 h6 hOC h7
          · exact absurd hop h0
        have J0 := Lib.hid hJ0
        have HT := Lib.hid hT
        have HC := Lib.hid hC
        have HZ := Lib.hid hz
        have HO := Lib.hid ho
        have HN := Lib.hid hn
        have HCC := Lib.hid hc
        have HB := Lib.hid hbok
        have HS := Lib.hid hs
        have HI := Lib.hid hi
        clear hJ0 hT hC hz ho hn hc hbok hsok hs hi hr h hOF hOC hbt hR he0
        go_enter_defers Tryz.func67, Tryz.ntmps67
        go_wp2_with fail
        refine CT.out.mono ?_; rintro e w1 ⟨rfl, B1, k1, n1⟩
        have K1 := Lib.hid k1
        have N1 := Lib.hid n1
        clear k1 n1 CT
        go_wp2_with fail
        refine (CO.out w1 B1 K1.out).mono ?_; rintro e w2 (⟨_, x, rfl, B2, k2, n2⟩ | ⟨h0, _⟩)
        · have START := Lib.hid (show FoAt x D P s b C inn out size m u w B (.int .i64 0) w2 from ⟨0, [], _, B2, rfl, J0.out, k2, N1.out.trans n2⟩)
          clear k2 n2 K1 N1 CO
          go_wp2_with fail
          go_loopw [19] (fun v wr => FoAt x D P s b C inn out size m u w B v wr) (fun v _ => 6000 - (intOf v).toNat)
          case atStart => exact START.out
          case round =>
            obtain ⟨i, got, r, B', rfl, hJ, hst, nx⟩ := hrel
            have hfw := hJ.few
            have hJc := hJ.calls
            have HFW := Lib.hid hfw
            have HJC := Lib.hid hJc
            have HJ := Lib.hid hJ
            have HST := Lib.hid hst
            have NX := Lib.hid nx
            have hi3 : (i : Int) ≤ 5000 := by omega
            rcases hJ.how with ⟨q1, q2, q3⟩ | ⟨q1, q2, _⟩
            · have CG := Lib.hid (gather16_c q1 HZ.out ⟨hm3, hm2⟩ (by have := HCC.out; omega) (M := []) trivial hst)
              have Q := Lib.hid (show ReadF r C size got ∧ r.b.now = b.now + m + 4 ∧ got.length = i * m.toNat from ⟨q1, q2, q3⟩)
              clear q1 q2 q3 hJ hst nx hfw hJc START
              go_wp2_with fail
              refine CG.out.mono ?_; rintro e w3 ⟨v, l, r', er, rfl, hG, B3, k3, n3⟩
              have K3 := Lib.hid k3
              have N3' := Lib.hid (NX.out.trans n3)
              have INV := Lib.hid hG.inv
              have SH := Lib.hid (show ∃ a c, v = .slice a l.length c by
                obtain ⟨_, hrw, _⟩ := part_at 3 rfl k3
                obtain ⟨a, c, e, _⟩ := rowE_shape hrw
                exact ⟨a, c, e⟩)
              obtain ⟨va, vc, rfl⟩ := SH.out
              rcases HJ.out.gather hm3 HB.out HZ.out Q.out.1 Q.out.2.1 Q.out.2.2 hG with ⟨rfl, h1, hK⟩ | ⟨rfl, rfl, hF⟩ | ⟨he, hF⟩
              · have hne0 : ¬ l.length = 0 := by omega
                have K := Lib.hid hK
                obtain ⟨nr, nz, _, ng⟩ := hK.name HN.out
                have CN := Lib.hid (fun (u : World) (hu : Tab u) => name16_c out (i : Int) (by omega) (by have := HO.out; omega) u hu)
                have TB := Lib.hid ((HT.out.nx N3'.out).tab)
                have LZ := Lib.hid (show l.length ≤ 5000 by have := hK.few.1; rw [List.length_append] at this; omega)
                have NM := Lib.hid (show rightB (nameN out (i : Int)).data.toList = true ∧ (nameN out (i : Int)).size ≤ 24 ∧ r'.s.get (nameN out (i : Int)).data.toList = none from ⟨nr, nz, ng⟩)
                clear hK hG k3 n3 CG SH nr nz ng
                obtain ⟨nm, hnm⟩ : ∃ nm, nameN out (i : Int) = nm := ⟨_, rfl⟩
                rw [hnm] at CN NM
                have HNM := Lib.hid hnm
                clear hnm
                go_wp2_with fail
                refine (CN.out w3 TB.out).mono ?_; rintro e u4 ⟨rfl, g4⟩
                have FM3 : Frs ([RdP x D P r'.x, DiskA D r'.s, BuA P r'.b] ++ ([RowA (.slice va l.length vc) l] ++ [])) := ⟨fr_rdp _ _ _ _, fr_disk _ _, fr_bu _ _, fr_row _ _, trivial⟩
                have K4 := Lib.hid (stars_perm (perm_run _ _ _ _) (stars_gr FM3 K3.out g4))
                have N4 := Lib.hid (N3'.out.trans (Nx.gr g4 (B := B3)))
                have FR3 : Frs [RdP x D P r'.x, DiskA D r'.s, BuA P r'.b] := ⟨fr_rdp _ _ _ _, fr_disk _ _, fr_bu _ _, trivial⟩
                have CS := Lib.hid (sorted16_c (u := u) FR3 K4.out (by have := LZ.out; omega))
                clear g4 FM3 FR3 CN
                go_wp2_with fail
                refine CS.out.mono ?_; rintro e u5 ⟨v5, rfl, B5, k5, n5⟩
                have K5 := Lib.hid (stars_perm (perm_run2 _ _ _ _) k5)
                have N5 := Lib.hid (N4.out.trans n5)
                have FR5 : Frs [RdP x D P r'.x, RowA v5 (sortT l u)] := ⟨fr_rdp _ _ _ _, fr_row _ _, trivial⟩
                have CW := Lib.hid (lay16_c (nn := size) (v := v5) HS.out K.out.ok.s K.out.ok.b NM.out.2.1 NM.out.1 K.out.sizeB NM.out.2.2 (by have h1 := K.out.calls; have h2 := K.out.few; rw [List.length_append] at h2; have := HCC.out; omega) (by have := sortT_le l u; have := LZ.out; omega) (K.out.sizes2 u) FR5 (fun wr B' k => by
                  obtain ⟨_, hrw, _⟩ := part_at 1 rfl k
                  exact row_lies hrw) K5.out)
                have SH5 : ∃ a n c, v5 = .slice a n c := by
                  obtain ⟨_, hrw, _⟩ := part_at 0 rfl k5
                  obtain ⟨a, c, e, _⟩ := rowE_shape hrw
                  exact ⟨a, _, c, e⟩
                obtain ⟨a5, n5', c5, rfl⟩ := SH5
                clear k5 n5 FR5 CS
                go_wp2_with fail
                refine CW.out.mono ?_; rintro e u6 ⟨s6, b6, er, rfl, hL, B6, k6, n6⟩
                have N6 := Lib.hid (N5.out.trans n6)
                have K6 := Lib.hid (show stars ([RdP x D P r'.x, DiskA D s6, BuA P b6] ++ [RowA (.slice a5 n5' c5) (sortT l u)]) u6 B6 from stars_perm (perm_run3 _ _ _ _) k6)
                rw [← HNM.out] at hL
                by_cases h0 : er = 0
                · subst h0
                  have J2 := Lib.hid (K.out.step hm3 HN.out HC.out hL)
                  obtain ⟨B7, k7, n7⟩ := stars_mono _ K6.out
                  have REL := Lib.hid (show FoAt x D P s b C inn out size m u w B (.int .i64 ((i : Int) + 1)) u6 from ⟨i + 1, got ++ l, ⟨s6, b6, r'.x⟩, B7, rfl, J2.out, k7, N6.out.trans n7⟩)
                  clear k7 n7 k6 n6 hL CW
                  go_wp2_with fail
                  refine ⟨REL.out, ?_⟩
                  simp [intOf]; omega
                · have hne : (er != 0) = true := by simpa using h0
                  have F := Lib.hid (K.out.fail hm3 HB.out (fun _ => trivial) h0 hL)
                  have DC := Lib.hid (rd_close_d (m := ⟨s6, b6, r'.x⟩) .returning ⟨INV.out.o, INV.out.c, INV.out.e0, INV.out.e1⟩ (M := [RowA (.slice a5 n5' c5) (sortT l u)]) ⟨fr_row _ _, trivial⟩ K6.out)
                  clear k6 n6 hL CW
                  go_wp2_with fail
                  refine leaves_cons (f := 94) (args := #[.pointer (some ⟨x, 0, none⟩)]) (by simp) (by simp [go_sem]) ?_
                  refine DC.out.mono ?_
                  rintro e u' w4 ⟨rfl, rfl, B4, k4, n4⟩
                  obtain ⟨B5, k5, n5⟩ := fo_rest _ k4
                  refine leaves_cons (f := 92) (args := #[.pointer (some ⟨P, 0, none⟩), .int .i64 m]) (by simp [settle]) (by simp [go_sem]) ?_
                  refine (bu_give_d m .returning (M := [DiskA D _]) ⟨fr_disk _ _, trivial⟩ k5).mono ?_
                  rintro e u' w6 ⟨rfl, rfl, B8, k8, n8⟩
                  refine ⟨_, results_tmp2 (t := 14) (u := 15) rfl _ _ _, ?_⟩; exact fo_got F.out ((N6.out.trans n4).trans n5) k8 n8
              · have F := Lib.hid hF
                have DC := Lib.hid (rd_close_d .returning INV.out (M := [RowA (.slice va ([] : List ByteArray).length vc) []] ++ []) (frs_app (L := [_]) ⟨fr_row _ _, trivial⟩ trivial) k3)
                clear hF hG k3 n3 CG SH
                go_wp2_with fail
                refine leaves_cons (f := 94) (args := #[.pointer (some ⟨x, 0, none⟩)]) (by simp) (by simp [go_sem]) ?_
                refine DC.out.mono ?_
                rintro e u' w4 ⟨rfl, rfl, B4, k4, n4⟩
                obtain ⟨B5, k5, n5⟩ := fo_rest _ k4
                refine leaves_cons (f := 92) (args := #[.pointer (some ⟨P, 0, none⟩), .int .i64 m]) (by simp [settle]) (by simp [go_sem]) ?_
                refine (bu_give_d m .returning (M := [DiskA D _]) ⟨fr_disk _ _, trivial⟩ k5).mono ?_
                rintro e u' w6 ⟨rfl, rfl, B6, k6, n6⟩
                refine ⟨_, results_tmp2 (t := 14) (u := 15) rfl _ _ _, ?_⟩; exact fo_got F.out ((N3'.out.trans n4).trans n5) k6 n6
              · have F := Lib.hid hF
                have hne : (er != 0) = true := by simpa using he
                have DC := Lib.hid (rd_close_d .returning INV.out (M := [RowA (.slice va l.length vc) l] ++ []) (frs_app (L := [_]) ⟨fr_row _ _, trivial⟩ trivial) k3)
                clear hF hG k3 n3 CG SH
                go_wp2_with fail
                refine leaves_cons (f := 94) (args := #[.pointer (some ⟨x, 0, none⟩)]) (by simp) (by simp [go_sem]) ?_
                refine DC.out.mono ?_
                rintro e u' w4 ⟨rfl, rfl, B4, k4, n4⟩
                obtain ⟨B5, k5, n5⟩ := fo_rest _ k4
                refine leaves_cons (f := 92) (args := #[.pointer (some ⟨P, 0, none⟩), .int .i64 m]) (by simp [settle]) (by simp [go_sem]) ?_
                refine (bu_give_d m .returning (M := [DiskA D _]) ⟨fr_disk _ _, trivial⟩ k5).mono ?_
                rintro e u' w6 ⟨rfl, rfl, B6, k6, n6⟩
                refine ⟨_, results_tmp2 (t := 14) (u := 15) rfl _ _ _, ?_⟩; exact fo_got F.out ((N3'.out.trans n4).trans n5) k6 n6
            · have CG := Lib.hid (gather16_none HJ.out.ok HJ.out.inv q1 q2 HJ.out.told ⟨hm3, hm2⟩ (by have := HCC.out; omega) (M := []) trivial hst)
              have F := Lib.hid (HJ.out.over hm3 HB.out q1)
              clear q1 q2 hJ hst nx hfw hJc START
              go_wp2_with fail
              refine CG.out.mono ?_; rintro e w3 ⟨rfl, B3, k3, n3⟩
              have N3' := Lib.hid (NX.out.trans n3)
              have DC := Lib.hid (rd_close_d .returning HJ.out.inv (M := []) trivial k3)
              clear k3 n3 CG
              go_wp2_with fail
              refine leaves_cons (f := 94) (args := #[.pointer (some ⟨x, 0, none⟩)]) (by simp) (by simp [go_sem]) ?_
              refine DC.out.mono ?_
              rintro e u' w4 ⟨rfl, rfl, B4, k4, n4⟩
              obtain ⟨B5, k5, n5⟩ := fo_rest _ k4
              refine leaves_cons (f := 92) (args := #[.pointer (some ⟨P, 0, none⟩), .int .i64 m]) (by simp [settle]) (by simp [go_sem]) ?_
              refine (bu_give_d m .returning (M := [DiskA D _]) ⟨fr_disk _ _, trivial⟩ k5).mono ?_
              rintro e u' w6 ⟨rfl, rfl, B6, k6, n6⟩
              refine ⟨_, results_tmp2 (t := 14) (u := 15) rfl _ _ _, ?_⟩; exact fo_got F.out ((N3'.out.trans n4).trans n5) k6 n6
        · exact absurd hop h0
      · have hF : FormR s b C inn out size m u R.1 (R.2.1.give m) 0 R.2.2.1 := by
          rcases hOF with ⟨h0, _⟩ | ⟨_, h1⟩
          · exact absurd h0 hop
          · exact form_open hm3 hbok he0 hOC hop h1
        have F := Lib.hid hF
        have hne : (R.2.2.1 != 0) = true := by simpa using hop
        clear hF hT hC hz ho hn hc hbok hsok hs hi hr h hOF hOC hbt hR he0
        go_enter_defers Tryz.func67, Tryz.ntmps67
        go_wp2_with fail
        refine CT.out.mono ?_; rintro e w1 ⟨rfl, B1, k1, n1⟩
        have K1 := Lib.hid k1
        have N1 := Lib.hid n1
        clear k1 n1 CT
        go_wp2_with fail
        refine (CO.out w1 B1 K1.out).mono ?_; rintro e w2 (⟨h0, _⟩ | ⟨_, rfl, B2, k2, n2⟩)
        · exact absurd h0 hop
        · have K2 := Lib.hid (show stars [DiskA D R.1, BuA P R.2.1] w2 B2 from k2)
          have N2 := Lib.hid (N1.out.trans n2)
          clear k2 n2 K1 N1 CO
          have DG := Lib.hid (bu_give_d m .returning (M := [DiskA D R.1]) ⟨fr_disk _ _, trivial⟩ (swap_star K2.out))
          go_wp2_with fail
          refine leaves_cons (f := 92) (args := #[.pointer (some ⟨P, 0, none⟩), .int .i64 m]) (by simp [settle]) (by simp [go_sem]) ?_
          refine DG.out.mono ?_
          rintro e u' w'' ⟨rfl, rfl, B3, k3, n3⟩
          refine ⟨_, results_tmp2 (t := 14) (u := 15) rfl _ _ _, ?_⟩; exact fo_got F.out N2.out k3 n3
    · have hne : (e0 != 0) = true := by simpa using ht
      have F := Lib.hid (form_take (s := s) (b := b) (C := C) (inn := inn) (out := out) (size := size) (u := u) hm3 (by rw [he0]; exact ht))
      rw [he0] at F
      clear hs hC hz hi hr ho hn hc hT h hsok hbok he0
      go_enter_defers Tryz.func67, Tryz.ntmps67
      go_wp2_with fail
      refine CT.out.mono ?_; rintro e w1 ⟨rfl, B1, k1, n1⟩
      have K1 := Lib.hid k1
      have N1 := Lib.hid n1
      clear k1 n1 CT
      go_wp2_with fail
      exact ⟨_, results_tmp2 rfl _ _ _, s, b.take m, 0, e0, rfl, F.out, B1, K1.out, N1.out⟩
end Go.Proofs.YtjplkmmhjfpdaaaGreatDoor
