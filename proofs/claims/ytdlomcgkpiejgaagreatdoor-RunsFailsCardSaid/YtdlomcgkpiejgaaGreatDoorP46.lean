/- In one text: Few, RecAwake, Must6, RfsRight, RnAwake. -/
import Derived.Test.YtdlomcgkpiejgaaGreatDoorP00
import Derived.WalkKit
import Derived.ProofKit
import Derived.Below
import Derived.Handy
import Derived.WalkLawsBesides
import Derived.Outline
import Derived.Test.YtdlomcgkpiejgaaGreatDoorP45
import Derived.Test.YtdlomcgkpiejgaaGreatDoorP07
import Derived.Test.YtdlomcgkpiejgaaGreatDoorP44
import Derived.Test.YtdlomcgkpiejgaaGreatDoorP19
import Derived.Test.YtdlomcgkpiejgaaGreatDoorP41
import Derived.Test.YtdlomcgkpiejgaaGreatDoorP42
import Derived.Test.YtdlomcgkpiejgaaGreatDoorP23
import Derived.Laws.OwnMore
/- The laws' Few of strings. -/
namespace Go.Proofs.YtdlomcgkpiejgaaGreatDoor
open Go.RowKit
set_option linter.unusedVariables false
set_option linter.unusedSimpArgs false
set_option maxRecDepth 20000
def few6 (l : List ByteArray) (m : Nat) : Bool := decide (l.length ≤ m) && (l.take m).all (fun s => decide (s.size ≤ 80))
theorem few6_yes {l : List ByteArray} {m : Nat} (h : few6 l m = true) : l.length ≤ m ∧ ∀ s ∈ l, s.size ≤ 80 := by
  unfold few6 at h
  simp only [Bool.and_eq_true, decide_eq_true_eq, List.all_eq_true] at h
  refine ⟨h.1, fun s hs => h.2 s ?_⟩
  rw [List.take_of_length_le h.1]; exact hs
theorem retbF {a b : Bool} (h : a = b) : Ending.returned (.bool a) = .returned (.bool b) := by rw [h]
def Few6At (l : List ByteArray) (m : Nat) (w : World) (i : Value) (wr : World) : Prop := ∃ j : Nat, j ≤ m ∧ j ≤ l.length ∧ i = .int .i64 j ∧ wr = w ∧ (l.take j).all (fun s => decide (s.size ≤ 80)) = true
theorem few6_c {w : World} {v : Value} {l : List ByteArray} (h : Lies w v l) (m : Nat) (hm : m ≤ 100) (hl : l.length ≤ 9223372036854775807) :
    Calls Tryz.prog 5 #[v, .int .i64 (m : Int)] w fun e w' => e = .returned (.bool (few6 l m)) ∧ w = w' := by
  obtain ⟨a, c, rfl, hc, h⟩ := h
  obtain ⟨n, hn⟩ : ∃ n, l.length = n := ⟨_, rfl⟩
  have HN := Lib.hid hn
  have H0 : 1 ≤ n → ∃ b off, a = some ⟨b, off, none⟩ ∧ SRow w b off l := fun h1 => h.elim (fun h0 => by rw [h0] at hn; simp at hn; omega) id
  have H := Lib.hid H0
  rw [hn] at hl ⊢
  have hl2 : (n : Int) ≤ 9223372036854775807 := by omega
  clear h hc hn H0 hl
  go_enter Tryz.func5, Tryz.ntmps5
  go_wp2_with fail
  go_loopw [5] (fun i wr => Few6At l m w i wr) (fun i _ => n - (intOf i).toNat)
  case atStart => exact ⟨0, Nat.zero_le _, Nat.zero_le _, rfl, rfl, rfl⟩
  case round =>
    obtain ⟨j, hjm, hj, rfl, rfl, hall⟩ := hrel
    have hln := HN.out
    by_cases hlt : j < n
    · by_cases h10 : j < m
      · obtain ⟨x, hx, hstep, hmem⟩ := take_at (l := l) (j := j) (by omega)
        obtain ⟨b, off, rfl, hr⟩ := H.out (by omega)
        have hcx := hr.2 j x hx
        by_cases hz : x.size ≤ 80
        · have hnext : (l.take (j + 1)).all (fun s => decide (s.size ≤ 80)) = true := by rw [hstep, List.all_append, hall]; simpa using hz
          have HX := Lib.hid hnext
          have hz2 : ¬ (80 : Int) < x.size := by omega
          have d1 : (j : Int) < (m : Int) := by omega
          clear hnext hstep hall hx hmem hz hr H
          go_wp2_with fail
          refine ⟨⟨j + 1, by omega, by have := HN.out; omega, rfl, rfl, HX.out⟩, ?_⟩
          simp [intOf]; omega
        · have hno : few6 l m = false := by
            unfold few6
            cases hd : decide (l.length ≤ m)
            · rfl
            · rw [decide_eq_true_iff] at hd
              rw [List.take_of_length_le hd, Bool.true_and, List.all_eq_false]
              exact ⟨x, hmem, by simpa using hz⟩
          have HX := Lib.hid hno
          have hz2 : (80 : Int) < x.size := by omega
          have d1 : (j : Int) < (m : Int) := by omega
          clear hno hstep hall hx hmem hz hr H
          go_wp2_with fail
          go_ret
          exact ⟨retbF HX.out.symm, rfl⟩
      · obtain rfl : j = m := by omega
        have hno : few6 l j = false := by unfold few6; rw [decide_eq_false (by omega)]; rfl
        have HX := Lib.hid hno
        have hx2 : ¬ (n : Int) ≤ (j : Int) := by omega
        clear hno hall H
        go_wp2_with fail
        go_ret
        exact ⟨retbF HX.out.symm, rfl⟩
    · obtain rfl : j = n := by omega
      have hyes : few6 l m = true := by
        unfold few6
        rw [decide_eq_true (by omega), List.take_of_length_le (by omega)]
        rw [List.take_of_length_le (by omega)] at hall
        rw [hall]; rfl
      have HX := Lib.hid hyes
      have hx2 : (j : Int) ≤ (m : Int) := by omega
      clear hyes hall H
      go_wp2_with fail
      go_ret
      exact ⟨retbF HX.out.symm, rfl⟩
end Go.Proofs.YtdlomcgkpiejgaaGreatDoor
/- The law's Few; Parse of a file and of none; the chapter's example. -/
namespace Go.Proofs.YtdlomcgkpiejgaaGreatDoor
open Go.RowKit CrcPlain OctPlain FramePlain RecPlain
set_option linter.unusedVariables false
set_option linter.unusedSimpArgs false
set_option maxRecDepth 20000
/-- What Parse of a file comes to. -/
def PFile (L : List ByteArray) (w : World) (e : Ending) (w' : World) : Prop := ∃ v, e = .returned (.tuple #[v, .agg #[.int .i64 (L.length : Nat), .int .u32 (sumN L : Nat)], .int .i64 0]) ∧ Lies w' v L ∧ Gr w w'
def PNone (w : World) (e : Ending) (w' : World) : Prop := e = .returned (.tuple #[.slice none 0 0, .agg #[.int .i64 0, .int .u32 0], .int .i64 6]) ∧ Gr w w'
theorem pgot_file {size : Int} {s : ByteArray} {L : List ByteArray} (h : IsFile size s L) {w : World} {e : Ending} {w' : World} (g : PGot size s w e w') : PFile L w e w' := by
  rcases g with ⟨L', v, h1, h2, h3, h4⟩ | ⟨h1, _⟩
  · obtain rfl := file_one h h1
    exact ⟨v, h2, h3, h4⟩
  · exact absurd h (h1 L)
theorem pgot_none {size : Int} {s : ByteArray} (h : ∀ L, ¬ IsFile size s L) {w : World} {e : Ending} {w' : World} (g : PGot size s w e w') : PNone w e w' := by
  rcases g with ⟨L', v, h1, _⟩ | ⟨_, h2, h3⟩
  · exact absurd h1 (h L')
  · exact ⟨h2, h3⟩
theorem lies_nil (w : World) : Lies w (.slice none 0 0) [] := ⟨none, 0, rfl, Nat.le_refl _, .inl rfl⟩
/-- What is laid is a file. -/
theorem lay_file {size : Int} {L : List ByteArray} (h : layB size L = true) : IsFile size (layR size L) L := ⟨h, by rw [layR_yes h, bs_data]⟩
theorem lay_size {size : Int} {L : List ByteArray} (h : layB size L = true) : ((layR size L).size : Int) = 28 + 5 * (((L.length : Int) + 3) / 4) + L.length * size := by
  have hs := h
  unfold layB at hs
  rw [Bool.and_eq_true] at hs
  have h1 := hs.1
  simp only [sizeB, decide_eq_true_eq] at h1
  obtain ⟨m, rfl⟩ : ∃ m : Nat, size = m := ⟨size.toNat, by omega⟩
  rw [layR_yes h, bs_size, layL_length h]
  unfold cnt4
  rw [Int.natCast_add, Int.natCast_add, Int.natCast_mul]
  omega
theorem head_apart {a b : Int} {s : ByteArray} {l m : List ByteArray} (h1 : IsFile a s l) (h2 : IsFile b s m) : a = b := by
  have e := (file_head h1).1.symm.trans (file_head h2).1
  have e2 := List.append_cancel_right e
  have ha := h1.1
  have hb := h2.1
  unfold layB at ha hb
  rw [Bool.and_eq_true] at ha hb
  have ha := ha.1
  have hb := hb.1
  simp only [sizeB, decide_eq_true_eq] at ha hb
  unfold headS at e2
  rw [cl_data, cl_data, bs_data, bs_data] at e2
  have e3 := congrArg (fun l => l[6]?) e2
  simp [nameL] at e3
  have := congrArg UInt8.toNat e3
  rw [UInt8.toNat_ofNat', UInt8.toNat_ofNat'] at this
  omega
end Go.Proofs.YtdlomcgkpiejgaaGreatDoor
/- The document's file of records, that is there. -/
namespace Go.Proofs.YtdlomcgkpiejgaaGreatDoor
open Go.RowKit CrcPlain OctPlain FramePlain RecPlain
set_option linter.unusedVariables false
set_option linter.unusedSimpArgs false
set_option maxRecDepth 20000
theorem must6_c {w : World} {v : Value} {L : List ByteArray} (h : Lies w v L) (size : Int) (hk : I64 size) (hl : L.length ≤ 3000) (hz : ∀ s ∈ L, s.size ≤ 1000) :
    Calls Tryz.prog 17 #[.int .i64 size, v] w fun e w' => e = .returned (.string (layR size L)) ∧ Gr w w' := by
  have C := Lib.hid (rlay_c h size hk hl hz)
  clear h
  go_enter Tryz.func17, Tryz.ntmps17
  go_wp2_with fail
  refine C.out.mono ?_; rintro e u ⟨rfl, g⟩
  go_wp2_with fail
  go_ret
  exact ⟨rfl, g⟩
end Go.Proofs.YtdlomcgkpiejgaaGreatDoor
/- The document's disk: is it a name? By a walk of its loop. -/
namespace Go.Proofs.YtdlomcgkpiejgaaGreatDoor
open Go.RowKit FsPlain
set_option linter.unusedVariables false
set_option linter.unusedSimpArgs false
set_option maxRecDepth 20000
set_option maxRecDepth 20000 in
set_option maxHeartbeats 4000000 in
theorem rright_c (s : ByteArray) (hs : s.size ≤ maxLen) (w : World) :
    Calls Tryz.prog 22 #[.string s] w fun e w' => e = .returned (.bool (rightB s.data.toList)) ∧ w = w' := by
  have hsz : s.data.toList.length = s.size := rfl
  unfold maxLen at hs
  obtain ⟨r, hr⟩ : ∃ r, r = rightB s.data.toList := ⟨_, rfl⟩
  rw [← hr]
  have HR := Lib.hid hr
  have HSZ := Lib.hid hsz
  clear hr hsz
  go_enter Tryz.func22, Tryz.ntmps22
  go_wp2_with fail
  go_loop [3] (fun i => ∃ k : Nat, k ≤ s.size ∧ i = .int .i64 k ∧ (s.data.toList.take k).all letterB = true) (fun i => s.size - (intOf i).toNat)
  case atStart => exact ⟨0, Nat.zero_le _, rfl, rfl⟩
  case round =>
    obtain ⟨k, hk, rfl, hall⟩ := hrel
    have HALL := Lib.hid hall
    clear hall
    by_cases hlt : k < s.size
    · have hlt' : k < s.data.toList.length := by rw [HSZ.out]; exact hlt
      have hstep := all_take _ k hlt'
      have hno := all_no _ k hlt'
      have hsame : s.data.toList[k] = s[k] := by simp; rfl
      rw [hsame] at hstep hno
      rw [HALL.out] at hstep
      have hb : s[k].toNat < 256 := s[k].toNat_lt
      cases hl : letterB s[k]
      · have hrf := right_no _ (hno hl)
        rw [← HR.out] at hrf
        unfold letterB at hl
        rw [decide_eq_false_iff_not] at hl
        have HL := Lib.hid hl
        clear hl hstep hno hsame
        subst hrf
        by_cases h5 : (s[k].toNat : Int) = 46
        · exfalso; exact HL.out (.inr (.inr h5))
        · have t5 : ((s[k].toNat : Int) != 46) = true := by simp [h5]
          go_wp2_with fail
          all_goals first
            | (exfalso; have := HL.out; omega)
            | (go_ret; exact ⟨rfl, rfl⟩)
      · have HST := Lib.hid (show (s.data.toList.take (k + 1)).all letterB = true by rw [hstep, hl]; rfl)
        unfold letterB at hl
        rw [decide_eq_true_eq] at hl
        have HL := Lib.hid hl
        clear hl hstep hno hsame
        by_cases h5 : (s[k].toNat : Int) = 46
        · have t5 : ((s[k].toNat : Int) != 46) = false := by simp [h5]
          go_wp2_with fail
          all_goals exact ⟨⟨k + 1, by omega, by go_num, HST.out⟩, by simp [intOf]; omega⟩
        · have t5 : ((s[k].toNat : Int) != 46) = true := by simp [h5]
          go_wp2_with fail
          all_goals first
            | exact ⟨⟨k + 1, by omega, by go_num, HST.out⟩, by simp [intOf]; omega⟩
            | (exfalso; have := HL.out; omega)
    · have hke : k = s.size := by omega
      have hr2 := right_len s.data.toList (by have := HALL.out; rw [hke, ← HSZ.out, List.take_length] at this; exact this)
      rw [← HR.out, HSZ.out] at hr2
      have HR2 := Lib.hid hr2
      clear hr2 hke
      by_cases h1 : 1 ≤ s.size <;> by_cases h2 : s.size ≤ 24
      all_goals
        go_wp2_with fail
        all_goals
          go_ret
          exact ⟨ret_fb (by rw [HR2.out]; first | (rw [decide_eq_decide]; omega) | (rw [eq_comm, decide_eq_false_iff_not]; omega) | (rw [eq_comm, decide_eq_true_iff]; omega)), rfl⟩
end Go.Proofs.YtdlomcgkpiejgaaGreatDoor
/- The law's own example. -/
namespace Go.Proofs.YtdlomcgkpiejgaaGreatDoor
open Go.RowKit FsPlain CrcPlain OctPlain FramePlain RecPlain RdPlain RnPlain WrPlain
set_option linter.unusedVariables false
set_option linter.unusedSimpArgs false
set_option maxRecDepth 20000
/-- A disk and a budget, made since w. -/
def Db (D P : Nat) (s : St) (b : Bu) (w v : World) : Prop := ∃ B, stars [DiskA D s, BuA P b] v B ∧ Nx (fun _ => False) w B v
theorem frs_db (D P : Nat) (s : St) (b : Bu) : Frs [DiskA D s, BuA P b] := ⟨fr_disk _ _, fr_bu _ _, trivial⟩
theorem Db.gr {D P : Nat} {s : St} {b : Bu} {w v u : World} (h : Db D P s b w v) (g : Gr v u) : Db D P s b w u := by
  obtain ⟨B, k, n⟩ := h
  exact ⟨B, stars_gr (frs_db D P s b) k g, n.trans (Nx.gr g)⟩
theorem Db.end {D P : Nat} {s : St} {b : Bu} {w v : World} (h : Db D P s b w v) : Gr w v := by
  obtain ⟨B, _, n⟩ := h
  exact nx_gr n
theorem db_made {D P : Nat} {s : St} {b : Bu} {w u v : World} {B1 B2 : Nat → Prop} (h1 : DiskA D s u B1) (n1 : ∀ x, B1 x → w.heap.size ≤ x) (g1 : Gr w u) (h2 : BuA P b v B2) (n2 : ∀ x, B2 x → u.heap.size ≤ x) (g2 : Gr u v) : Db D P s b w v := by
  refine ⟨fun x => B1 x ∨ B2 x, ⟨B1, B2, (fr_disk D s).fr h1 (Only.ofGr (B := fun _ => False) g2) (fun _ _ e => e), stars_one h2, fun x a b => ?_, fun _ => Iff.rfl⟩, Only.ofGr (g1.trans g2), fun x hx => .inr ?_⟩
  · have := Disk.low h1 x a
    have := n2 x b
    omega
  · rcases hx with hx | hx
    · exact n1 x hx
    · have := n2 x hx; have := g1.size; omega
/-- A call on the disk alone. -/
theorem Db.disk {D P : Nat} {s s' : St} {b : Bu} {w v : World} {f : FuncId} {args : Array Value} {x : Value} (h : Db D P s b w v) (k : ∀ B, DiskA D s v B → Calls Tryz.prog f args v (Does v B (DiskA D s') x)) :
    Calls Tryz.prog f args v fun e v' => e = .returned x ∧ Db D P s' b w v' := by
  obtain ⟨B, hs, n⟩ := h
  refine (does_star (fr_stars (L := [BuA P b]) ⟨fr_bu _ _, trivial⟩) hs k).mono ?_
  rintro e v' ⟨he, B', h', n'⟩
  exact ⟨he, B', h', n.trans n'⟩
/-- Where the budget lies. -/
theorem Db.bud {D P : Nat} {s : St} {b : Bu} {w v : World} (h : Db D P s b w v) : BAt v P b := by
  obtain ⟨B, ⟨B1, B2, _, ⟨B3, B4, hb, _⟩, _⟩, _⟩ := h
  exact hb.at
/-- What Form leaves of both. -/
theorem Db.form {D P : Nat} {s : St} {b : Bu} {C inn out : ByteArray} {size m : Int} {u : Bool} {w v : World} {args : Array Value} {f : FuncId} (h : Db D P s b w v) (hT : Tab w) (k : ∀ B, TabB v B → stars [DiskA D s, BuA P b] v B → Calls Tryz.prog f args v (FormGot D P s b C inn out size m u v B)) :
    Calls Tryz.prog f args v fun e v' => ∃ s' b' n er, e = .returned (.tuple #[.int .i64 n, .int .i64 er]) ∧ FormR s b C inn out size m u s' b' n er ∧ Db D P s' b' w v' := by
  obtain ⟨B, hs, n⟩ := h
  refine (k B ((tabB_none hT).nx n) hs).mono ?_
  rintro e v' ⟨s', b', n1, er, he, hf, B', h', n'⟩
  exact ⟨s', b', n1, er, he, hf, B', h', n.trans n'⟩
def sA : ByteArray := ⟨#[97]⟩
def sB : ByteArray := ⟨#[98]⟩
def sC : ByteArray := ⟨#[99]⟩
theorem ex_le16 : leT sA sC = true := by
  unfold leT ltT
  rw [Lib.toList_data, Lib.toList_data]
  decide
theorem ex_runs16 : runsT 2 false 3 [sC, sA, sB] = [[sA, sC], [sB]] := by
  have e1 : sortT [sC, sA] false = [sA, sC] := (sortT_is (by simp [Srt, ex_le16]) (List.Perm.swap _ _ _)).symm
  have e2 : sortT [sB] false = [sB] := (sortT_is (by simp [Srt]) (List.Perm.refl _)).symm
  simp [runsT, e1, e2]
theorem ex_lay16 : layB 1 [sC, sA, sB] = true ∧ layB 1 [sA, sC] = true ∧ layB 1 [sB] = true := by decide
theorem ex_name (i : Nat) (l : List UInt8) (h : 98 :: 46 :: digB i = l) : nameN nmB (i : Int) = bs l := ext_toList (by rw [name_data, bs_data, h])
theorem ex_names : nameN nmB 0 = ⟨#[98, 46, 48]⟩ ∧ nameN nmB 1 = ⟨#[98, 46, 49]⟩ ∧ nameN nmB 12 = ⟨#[98, 46, 49, 50]⟩ := by
  refine ⟨ex_name 0 [98, 46, 48] ?_, ex_name 1 [98, 46, 49] ?_, ex_name 12 [98, 46, 49, 50] ?_⟩
  · rw [digB_small (by omega)]; rfl
  · rw [digB_small (by omega)]; rfl
  · rw [digB_big (by omega), digB_small (by omega)]; rfl
/-- What the example comes to. -/
theorem ex_form {s' : St} {b' : Bu} {k er : Int} (h : FormR (stA 1000 (layR 1 [sC, sA, sB])) ⟨10, 0, 0⟩ (layR 1 [sC, sA, sB]) nmA nmB 1 2 false s' b' k er) :
    er = 0 ∧ k = 2 ∧ s'.down = false ∧ s'.ahead = -1 ∧ s'.calls ≤ 2000000 ∧ HasD s' [98, 46, 48] (layR 1 [sA, sC]) ∧ HasD s' [98, 46, 49] (layR 1 [sB]) := by
  obtain ⟨l1, l2, l3⟩ := ex_lay16
  have hF := lay_file l1
  obtain ⟨c1, c2, c3⟩ := h.calm _ hF (by decide) (by decide) rfl rfl (by decide) (by decide) (by
    have hsz := lay_size l1
    have hu : used (stA 1000 (layR 1 [sC, sA, sB])).fs = (layR 1 [sC, sA, sB]).size := by
      show (layR 1 [sC, sA, sB]).data.toList.length + 0 = _
      rw [Array.length_toList]; rfl
    rw [hu]
    show ((layR 1 [sC, sA, sB]).size : Int) + 100 * ((3 : Nat) : Int) ≤ 1000
    simp only [List.length_cons, List.length_nil] at hsz
    omega)
  obtain ⟨L, hL, hr⟩ := h.yes c1
  obtain rfl := file_one hL hF
  have hk := hr.k
  have hf := hr.file
  have e : runsT (2 : Int).toNat false [sC, sA, sB].length [sC, sA, sB] = [[sA, sC], [sB]] := ex_runs16
  rw [e] at hk hf
  obtain ⟨n0, n1, _⟩ := ex_names
  have f0 := hf 0 _ rfl
  have f1 := hf 1 _ rfl
  rw [← layR_yes l2] at f0
  rw [← layR_yes l3] at f1
  have hc := h.calls
  refine ⟨c1, by rw [hk]; rfl, c2, c3, ?_, ?_, ?_⟩
  · have : (stA 1000 (layR 1 [sC, sA, sB])).calls = 2 := rfl
    omega
  · rw [show nameN nmB ((0 : Nat) : Int) = ⟨#[98, 46, 48]⟩ from n0] at f0; exact f0
  · rw [show nameN nmB ((1 : Nat) : Int) = ⟨#[98, 46, 49]⟩ from n1] at f1; exact f1
set_option maxHeartbeats 4000000 in
theorem awake16_c (w : World) (hT : Tab w) : Calls Tryz.prog 6 #[] w fun e w' => e = .returned (.bool true) ∧ Gr w w' := by
  obtain ⟨l1, l2, l3⟩ := ex_lay16
  have hz1 : (layR 1 [sC, sA, sB]).size ≤ 3000 ∧ ((layR 1 [sC, sA, sB]).size : Int) ≤ 1000 := by
    have hsz := lay_size l1
    simp only [List.length_cons, List.length_nil] at hsz
    omega
  have hz2 : (layR 1 [sA, sC]).size ≤ 100000000 := by
    have hsz := lay_size l2
    simp only [List.length_cons, List.length_nil] at hsz
    omega
  have hz3 : (layR 1 [sB]).size ≤ 100000000 := by
    have hsz := lay_size l3
    simp only [List.length_cons, List.length_nil] at hsz
    omega
  have lies : ∀ (u v : World) (l : List ByteArray) (T : TypeId), (∀ i x, l[i]? = some x → (v.cell? ⟨u.heap.size, i, none⟩ = some (.string x))) → u.heap.size < v.heap.size → Lies v (.slice (some ⟨u.heap.size, 0, none⟩) l.length l.length) l := by
    intro u v l T h hs
    refine ⟨_, l.length, rfl, Nat.le_refl _, .inr ⟨_, 0, rfl, hs, fun j x hj => ?_⟩⟩
    rw [Nat.zero_add]; exact h j x hj
  have M1 := Lib.hid (fun (u : World) => must6_c (w := u.alloc (.cells #[.string ⟨#[99]⟩, .string ⟨#[97]⟩, .string ⟨#[98]⟩] 9)) (lies u _ [sC, sA, sB] 9 (fun j x hj => by
    rw [World.cell?_alloc_new]
    match j, hj with
    | 0, hj => cases hj; rfl
    | 1, hj => cases hj; rfl
    | 2, hj => cases hj; rfl) (by simp)) 1 (by unfold I64; omega) (by simp) (by decide))
  have M2 := Lib.hid (fun (u : World) => must6_c (w := u.alloc (.cells #[.string ⟨#[97]⟩, .string ⟨#[99]⟩] 9)) (lies u _ [sA, sC] 9 (fun j x hj => by
    rw [World.cell?_alloc_new]
    match j, hj with
    | 0, hj => cases hj; rfl
    | 1, hj => cases hj; rfl) (by simp)) 1 (by unfold I64; omega) (by simp) (by decide))
  have M3' := Lib.hid (fun (u : World) => must6_c (w := u.alloc (.cells #[.string ⟨#[98]⟩] 9)) (lies u _ [sB] 9 (fun j x hj => by
    rw [World.cell?_alloc_new]
    match j, hj with
    | 0, hj => cases hj; rfl) (by simp)) 1 (by unfold I64; omega) (by simp) (by decide))
  have DK := Lib.hid (fun (u : World) => disk16_c (r := 1000) (by decide) hz1.2 u)
  have BN := Lib.hid (fun (u : World) => bu_new 10 u (by decide) (by decide))
  have hst : HasD (stA 1000 (layR 1 [sC, sA, sB])) nmA.data.toList (layR 1 [sC, sA, sB]) := (st_stands _ _).get
  have hnm : Names16 (stA 1000 (layR 1 [sC, sA, sB])) nmA nmB := by
    intro i hi
    obtain ⟨h1, h2, h3⟩ := name_b hi
    refine ⟨h1, h2, h3, ?_⟩
    rw [name_data]; rfl
  have FM := Lib.hid (fun D P (u : World) (B : Nat → Prop) (tb : TabB u B) (h : stars [DiskA D (stA 1000 (layR 1 [sC, sA, sB])), BuA P ⟨10, 0, 0⟩] u B) => form16_c (size := 1) (m := 2) (out := nmB) (by unfold I64; omega) (by unfold I64; omega) false hst hz1.1 nmA_size nmA_right (by decide) hnm (by show (2 : Int) ≤ _; decide) tb h)
  have EX := Lib.hid (fun s' b' k er h => ex_form (s' := s') (b' := b') (k := k) (er := er) h)
  have WH := Lib.hid (fun (p : Nat) (s : St) (n C : ByteArray) (hC : HasD s n.data.toList C) hu ha hc hn hm hz u B h => whole16_c (p := p) (s := s) (n := n) (C := C) hC hu ha hc hn hm hz u B h)
  have N12 := Lib.hid (fun u (g : Gr w u) => name16_c nmB 12 (by decide) (by decide) u (hT.gr g))
  have Nm1 := Lib.hid (fun u (g : Gr w u) => name16_c nmB (-1) (by decide) (by decide) u (hT.gr g))
  have HT := Lib.hid hT
  obtain ⟨_, _, n12⟩ := ex_names
  rw [n12] at N12
  have nm1 : nameN nmB (-1) = ⟨#[]⟩ := rfl
  rw [nm1] at Nm1
  have RR := Lib.hid (fun u => rright_c ⟨#[98, 46, 49, 50]⟩ (by decide) u)
  have rr : rightB (⟨#[98, 46, 49, 50]⟩ : ByteArray).data.toList = true := by decide
  rw [rr] at RR
  obtain ⟨C0, hC0⟩ : ∃ C0, layR 1 [sC, sA, sB] = C0 := ⟨_, rfl⟩
  obtain ⟨C1, hC1⟩ : ∃ C1, layR 1 [sA, sC] = C1 := ⟨_, rfl⟩
  obtain ⟨C2, hC2⟩ : ∃ C2, layR 1 [sB] = C2 := ⟨_, rfl⟩
  rw [hC0] at M1 DK FM EX
  rw [hC1] at M2 EX hz2
  rw [hC2] at M3' EX hz3
  clear hT l1 l2 l3 hz1 lies hst hnm n12 nm1 rr hC0 hC1 hC2
  unfold nmA nmB at FM
  unfold nmB at N12 Nm1
  go_enter Tryz.func6, Tryz.ntmps6
  go_wp2_with fail
  refine (M1.out w).mono ?_; rintro e u1 ⟨rfl, g1⟩
  have G1 := Lib.hid (show Gr w u1 from (gr16 w _).trans g1)
  clear g1
  go_wp2_with fail
  refine (DK.out _).mono ?_; rintro e u2 ⟨p, B, rfl, hd, g2, hn⟩
  have HD := Lib.hid hd
  have HN := Lib.hid hn
  have G2 := Lib.hid (G1.out.trans g2)
  have HNW := Lib.hid (fun b hb => Nat.le_trans G1.out.size (HN.out b hb))
  clear hd hn g2
  go_wp2_with fail
  refine (BN.out _).mono ?_; rintro e u3 ⟨rfl, hb, g3⟩
  have DB := Lib.hid (db_made HD.out HNW.out G2.out hb (fun x hx => by omega) g3)
  clear hb g3
  generalize u2.heap.size = P at DB
  go_wp2_with fail
  refine (DB.out.form HT.out (FM.out p P _)).mono ?_; rintro e u4 ⟨s', b', k, er, rfl, hf, db⟩
  obtain ⟨rfl, rfl, hdown, hahd, hcl, f1, f2⟩ := EX.out _ _ _ _ hf
  have DB4 := Lib.hid db
  have W1 := Lib.hid (fun u B h => WH.out p s' ⟨#[98, 46, 48]⟩ C1 f1 hdown hahd (by omega) (by decide) (by decide) hz2 u B h)
  have hc2 : s'.call.call.down = false ∧ s'.call.call.ahead = -1 ∧ s'.call.call.calls = s'.calls + 2 := by
    obtain ⟨a, b⟩ := (quiet_call s').calm hdown hahd
    obtain ⟨a, b⟩ := (quiet_call s'.call).calm a b
    exact ⟨a, b, by show s'.calls + 1 + 1 = _; omega⟩
  have W2 := Lib.hid (fun u B h => WH.out p s'.call.call ⟨#[98, 46, 49]⟩ C2 f2 hc2.1 hc2.2.1 (by omega) (by decide) (by decide) hz3 u B h)
  clear hf db hdown hahd hcl f1 f2 hc2
  go_wp2_with fail
  refine (DB4.out.disk (W1.out _)).mono ?_; rintro e u5 ⟨rfl, db⟩
  have DB5 := Lib.hid db
  clear db
  go_wp2_with fail
  refine (DB5.out.disk (W2.out _)).mono ?_; rintro e u6 ⟨rfl, db⟩
  have DB6 := Lib.hid db
  clear db
  go_wp2_with fail
  refine (M2.out u6).mono ?_; rintro e u7 ⟨rfl, g7⟩
  have DB7 := Lib.hid (DB6.out.gr ((gr16 u6 _).trans g7))
  clear g7
  go_wp2_with fail
  refine (M3'.out u7).mono ?_; rintro e u8 ⟨rfl, g8⟩
  have DB8 := Lib.hid (DB7.out.gr ((gr16 u7 _).trans g8))
  clear g8
  go_wp2_with fail
  refine (N12.out _ DB8.out.end).mono ?_; rintro e u9 ⟨rfl, g9⟩
  have DB9 := Lib.hid (DB8.out.gr g9)
  clear g9
  go_wp2_with fail
  refine (Nm1.out _ DB9.out.end).mono ?_; rintro e u10 ⟨rfl, g10⟩
  have DB10 := Lib.hid (DB9.out.gr g10)
  clear g10
  go_wp2_with fail
  refine (RR.out _).mono ?_; rintro e u11 ⟨rfl, rfl⟩
  go_wp2_with fail
  go_ret
  exact ⟨rfl, DB10.out.end⟩
end Go.Proofs.YtdlomcgkpiejgaaGreatDoor
