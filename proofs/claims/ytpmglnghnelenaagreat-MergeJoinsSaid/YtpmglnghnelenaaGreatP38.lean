/- In one text: Few, RecAwake, MgExit. -/
import Derived.Test.YtpmglnghnelenaaGreatP00
import Derived.WalkKit
import Derived.ProofKit
import Derived.Below
import Derived.Handy
import Derived.WalkLawsBesides
import Derived.Outline
import Derived.Test.YtpmglnghnelenaaGreatP37
import Derived.Test.YtpmglnghnelenaaGreatP05
import Derived.Test.YtpmglnghnelenaaGreatP35
/- The laws' Few of strings. -/
namespace Go.Proofs.YtpmglnghnelenaaGreat
open Go.RowKit
set_option linter.unusedVariables false
set_option linter.unusedSimpArgs false
set_option maxRecDepth 20000
def few6 (l : List ByteArray) (m : Nat) : Bool := decide (l.length ≤ m) && (l.take m).all (fun s => decide (s.size ≤ 80))
theorem few6_yes {l : List ByteArray} {m : Nat} (h : few6 l m = true) : l.length ≤ m ∧ ∀ s ∈ l, s.size ≤ 80 := by
  unfold few6 at h
  simp only [Bool.and_eq_true, decide_eq_true_eq, List.all_eq_true] at h
  refine ⟨h.1, fun s hs => h.2 s ?_⟩
  rw [List.take_of_length_le h.1]; exact hs
theorem retbF {a b : Bool} (h : a = b) : Ending.returned (.bool a) = .returned (.bool b) := by rw [h]
def Few6At (l : List ByteArray) (m : Nat) (w : World) (i : Value) (wr : World) : Prop := ∃ j : Nat, j ≤ m ∧ j ≤ l.length ∧ i = .int .i64 j ∧ wr = w ∧ (l.take j).all (fun s => decide (s.size ≤ 80)) = true
theorem few6_c {w : World} {v : Value} {l : List ByteArray} (h : Lies w v l) (m : Nat) (hm : m ≤ 100) (hl : l.length ≤ 9223372036854775807) :
    Calls Tryz.prog 19 #[v, .int .i64 (m : Int)] w fun e w' => e = .returned (.bool (few6 l m)) ∧ w = w' := by
  obtain ⟨a, c, rfl, hc, h⟩ := h
  obtain ⟨n, hn⟩ : ∃ n, l.length = n := ⟨_, rfl⟩
  have HN := Lib.hid hn
  have H0 : 1 ≤ n → ∃ b off, a = some ⟨b, off, none⟩ ∧ SRow w b off l := fun h1 => h.elim (fun h0 => by rw [h0] at hn; simp at hn; omega) id
  have H := Lib.hid H0
  rw [hn] at hl ⊢
  have hl2 : (n : Int) ≤ 9223372036854775807 := by omega
  clear h hc hn H0 hl
  go_enter Tryz.func19, Tryz.ntmps19
  go_wp2_with fail
  go_loopw [5] (fun i wr => Few6At l m w i wr) (fun i _ => n - (intOf i).toNat)
  case atStart => exact ⟨0, Nat.zero_le _, Nat.zero_le _, rfl, rfl, rfl⟩
  case round =>
    obtain ⟨j, hjm, hj, rfl, rfl, hall⟩ := hrel
    have hln := HN.out
    by_cases hlt : j < n
    · by_cases h10 : j < m
      · obtain ⟨x, hx, hstep, hmem⟩ := take_at (l := l) (j := j) (by omega)
        obtain ⟨b, off, rfl, hr⟩ := H.out (by omega)
        have hcx := hr.2 j x hx
        by_cases hz : x.size ≤ 80
        · have hnext : (l.take (j + 1)).all (fun s => decide (s.size ≤ 80)) = true := by rw [hstep, List.all_append, hall]; simpa using hz
          have HX := Lib.hid hnext
          have hz2 : ¬ (80 : Int) < x.size := by omega
          have d1 : (j : Int) < (m : Int) := by omega
          clear hnext hstep hall hx hmem hz hr H
          go_wp2_with fail
          refine ⟨⟨j + 1, by omega, by have := HN.out; omega, rfl, rfl, HX.out⟩, ?_⟩
          simp [intOf]; omega
        · have hno : few6 l m = false := by
            unfold few6
            cases hd : decide (l.length ≤ m)
            · rfl
            · rw [decide_eq_true_iff] at hd
              rw [List.take_of_length_le hd, Bool.true_and, List.all_eq_false]
              exact ⟨x, hmem, by simpa using hz⟩
          have HX := Lib.hid hno
          have hz2 : (80 : Int) < x.size := by omega
          have d1 : (j : Int) < (m : Int) := by omega
          clear hno hstep hall hx hmem hz hr H
          go_wp2_with fail
          go_ret
          exact ⟨retbF HX.out.symm, rfl⟩
      · obtain rfl : j = m := by omega
        have hno : few6 l j = false := by unfold few6; rw [decide_eq_false (by omega)]; rfl
        have HX := Lib.hid hno
        have hx2 : ¬ (n : Int) ≤ (j : Int) := by omega
        clear hno hall H
        go_wp2_with fail
        go_ret
        exact ⟨retbF HX.out.symm, rfl⟩
    · obtain rfl : j = n := by omega
      have hyes : few6 l m = true := by
        unfold few6
        rw [decide_eq_true (by omega), List.take_of_length_le (by omega)]
        rw [List.take_of_length_le (by omega)] at hall
        rw [hall]; rfl
      have HX := Lib.hid hyes
      have hx2 : (j : Int) ≤ (m : Int) := by omega
      clear hyes hall H
      go_wp2_with fail
      go_ret
      exact ⟨retbF HX.out.symm, rfl⟩
end Go.Proofs.YtpmglnghnelenaaGreat
/- The law's Few; Parse of a file and of none; the chapter's example. -/
namespace Go.Proofs.YtpmglnghnelenaaGreat
open Go.RowKit CrcPlain OctPlain FramePlain RecPlain
set_option linter.unusedVariables false
set_option linter.unusedSimpArgs false
set_option maxRecDepth 20000
/-- What Parse of a file comes to. -/
def PFile (L : List ByteArray) (w : World) (e : Ending) (w' : World) : Prop := ∃ v, e = .returned (.tuple #[v, .agg #[.int .i64 (L.length : Nat), .int .u32 (sumN L : Nat)], .int .i64 0]) ∧ Lies w' v L ∧ Gr w w'
def PNone (w : World) (e : Ending) (w' : World) : Prop := e = .returned (.tuple #[.slice none 0 0, .agg #[.int .i64 0, .int .u32 0], .int .i64 6]) ∧ Gr w w'
theorem pgot_file {size : Int} {s : ByteArray} {L : List ByteArray} (h : IsFile size s L) {w : World} {e : Ending} {w' : World} (g : PGot size s w e w') : PFile L w e w' := by
  rcases g with ⟨L', v, h1, h2, h3, h4⟩ | ⟨h1, _⟩
  · obtain rfl := file_one h h1
    exact ⟨v, h2, h3, h4⟩
  · exact absurd h (h1 L)
theorem pgot_none {size : Int} {s : ByteArray} (h : ∀ L, ¬ IsFile size s L) {w : World} {e : Ending} {w' : World} (g : PGot size s w e w') : PNone w e w' := by
  rcases g with ⟨L', v, h1, _⟩ | ⟨_, h2, h3⟩
  · exact absurd h1 (h L')
  · exact ⟨h2, h3⟩
theorem lies_nil (w : World) : Lies w (.slice none 0 0) [] := ⟨none, 0, rfl, Nat.le_refl _, .inl rfl⟩
/-- What is laid is a file. -/
theorem lay_file {size : Int} {L : List ByteArray} (h : layB size L = true) : IsFile size (layR size L) L := ⟨h, by rw [layR_yes h, bs_data]⟩
theorem lay_size {size : Int} {L : List ByteArray} (h : layB size L = true) : ((layR size L).size : Int) = 28 + 5 * (((L.length : Int) + 3) / 4) + L.length * size := by
  have hs := h
  unfold layB at hs
  rw [Bool.and_eq_true] at hs
  have h1 := hs.1
  simp only [sizeB, decide_eq_true_eq] at h1
  obtain ⟨m, rfl⟩ : ∃ m : Nat, size = m := ⟨size.toNat, by omega⟩
  rw [layR_yes h, bs_size, layL_length h]
  unfold cnt4
  rw [Int.natCast_add, Int.natCast_add, Int.natCast_mul]
  omega
theorem head_apart {a b : Int} {s : ByteArray} {l m : List ByteArray} (h1 : IsFile a s l) (h2 : IsFile b s m) : a = b := by
  have e := (file_head h1).1.symm.trans (file_head h2).1
  have e2 := List.append_cancel_right e
  have ha := h1.1
  have hb := h2.1
  unfold layB at ha hb
  rw [Bool.and_eq_true] at ha hb
  have ha := ha.1
  have hb := hb.1
  simp only [sizeB, decide_eq_true_eq] at ha hb
  unfold headS at e2
  rw [cl_data, cl_data, bs_data, bs_data] at e2
  have e3 := congrArg (fun l => l[6]?) e2
  simp [nameL] at e3
  have := congrArg UInt8.toNat e3
  rw [UInt8.toNat_ofNat', UInt8.toNat_ofNat'] at this
  omega
end Go.Proofs.YtpmglnghnelenaaGreat
/- Plain facts: what each way out of a merge leaves. -/
namespace Go.Proofs.YtpmglnghnelenaaGreat
open Go.RowKit FsPlain CrcPlain OctPlain FramePlain RecPlain RdPlain RnPlain LoPlain WrPlain
set_option linter.unusedVariables false
set_option linter.unusedSimpArgs false
set_option maxRecDepth 20000
/-- These are the files' lists. -/
def FilesAre (size : Int) (F : List (ByteArray × ByteArray)) (Ls : List (List ByteArray)) : Prop := Ls.length = F.length ∧ ∀ (i : Nat) (nm C : ByteArray) (L : List ByteArray), F[i]? = some (nm, C) → Ls[i]? = some L → IsFile size C L
theorem mg_err {s0 s' : St} {b0 b' : Bu} {F : List (ByteArray × ByteArray)} {out : ByteArray} {size : Int} {u : Bool} {er : Int} (he : er ≠ 0) (hok : s'.ok) (hnow : b'.now = b0.now) (hbm : b'.m = b0.m) (hc : s'.calls ≤ s0.calls + 1000000) (ho : ∃ d, d ≤ 1 ∧ Oth out.data.toList d s0 s')
    (hcode : ∀ Ls, FilesAre size F Ls → F.length ≤ 64 → sizeB size = true → 4 * (F.length : Int) + 4 ≤ b0.m - b0.now → er = 4 ∨ er = 5 ∨ (er = 13 ∧ ¬ ∀ L ∈ Ls, Srt L))
    (hcalm : ∀ Ls, FilesAre size F Ls → F.length ≤ 64 → sizeB size = true → 4 * (F.length : Int) + 4 ≤ b0.m - b0.now → WrPlain.Calm s0 → s0.fs.length ≤ 150 → (used s0.fs : Int) + 28 + 69 * (Ls.flatten.length : Nat) ≤ s0.room → er = 13 ∧ WrPlain.Calm s') : MergeR s0 b0 F out size u s' b' 0 0 er :=
  ⟨fun _ => ⟨rfl, rfl⟩, hok, hnow, hbm, hc, ho, fun k => absurd k he, fun Ls h1 h2 h3 h4 h5 => by
    rcases hcode Ls ⟨h1, h2⟩ h3 h4 h5 with k | k | k
    · exact .inl k
    · exact .inr (.inl k)
    · exact .inr (.inr (.inr k)), fun Ls h1 h2 h3 h4 h5 h6 h7 h8 => by
    obtain ⟨k1, k2⟩ := hcalm Ls ⟨h1, h2⟩ h3 h4 h5 h6 h7 h8
    exact ⟨by omega, by omega, k2⟩⟩
/-- What was told of each, beside what was taken of each and what comes next. -/
structure MgT (u : Bool) (G : List (List ByteArray × Bool)) (T : List (List ByteArray)) (H : List Hd) (done : List ByteArray) : Prop where
  mid : Mid u T H done
  len : G.length = T.length
  rel : ∀ (i : Nat) (t : List ByteArray) (z : Hd), T[i]? = some t → H[i]? = some z → G[i]? = some (if z.o = true then t else t ++ [z.s], z.o)
theorem done_le17 {u : Bool} {T : List (List ByteArray)} {H : List Hd} {done : List ByteArray} (m : Mid u T H done) : done.length ≤ T.flatten.length := by rw [m.is]; exact sortT_le _ _
/-- What was taken is how each file begins. -/
theorem MgT.pre {u : Bool} {G : List (List ByteArray × Bool)} {T : List (List ByteArray)} {H : List Hd} {done : List ByteArray} (h : MgT u G T H done) {s : St} {b : Bu} {size : Int} {F : List (ByteArray × ByteArray)} {ys : List Rs} (hS : Srcs s b size F ys G) (hz : ∀ p ∈ F, p.2.size ≤ 3000) {Ls : List (List ByteArray)} (hL : FilesAre size F Ls) {i : Nat} {t : List ByteArray} {z : Hd} (ht : T[i]? = some t) (hH : H[i]? = some z) : ∃ L r, Ls[i]? = some L ∧ L = (if z.o = true then t else t ++ [z.s]) ++ r := by
  have hG := h.rel i t z ht hH
  have hi : i < ys.length := by rw [hS.len]; exact (List.getElem?_eq_some_iff.1 hG).1
  have hF : i < F.length := Nat.lt_of_lt_of_le hi hS.le
  have hf : F[i]? = some F[i] := List.getElem?_eq_getElem hF
  have hLi : Ls[i]? = some (Ls[i]'(by rw [hL.1]; exact hF)) := List.getElem?_eq_getElem _
  obtain ⟨r, hr⟩ := (hS.src i _ _ _ _ _ hf (List.getElem?_eq_getElem hi) hG).pre (Nat.le_trans (hz _ (List.getElem_mem hF)) (by decide)) (hL.2 i _ _ _ hf hLi)
  exact ⟨_, r, hLi, hr⟩
theorem MgT.lens {u : Bool} {G : List (List ByteArray × Bool)} {T : List (List ByteArray)} {H : List Hd} {done : List ByteArray} (h : MgT u G T H done) {s : St} {b : Bu} {size : Int} {F : List (ByteArray × ByteArray)} {ys : List Rs} (hS : Srcs s b size F ys G) (hz : ∀ p ∈ F, p.2.size ≤ 3000) {Ls : List (List ByteArray)} (hL : FilesAre size F Ls) : done.length ≤ Ls.flatten.length ∧ (leastB H = true → done.length + 1 ≤ Ls.flatten.length) := by
  have hTl : T.length ≤ Ls.length := by rw [hL.1, ← h.len, ← hS.len]; exact hS.le
  have hd := done_le17 h.mid
  have key : ∀ (i : Nat) (a b : List ByteArray), T[i]? = some a → Ls[i]? = some b → a.length ≤ b.length := fun i a b ha hb => by
    have hi := (List.getElem?_eq_some_iff.1 ha).1
    have hH : H[i]? = some (H[i]'(by rw [h.mid.len]; exact hi)) := List.getElem?_eq_getElem _
    obtain ⟨L, r, k1, k2⟩ := h.pre hS hz hL ha hH
    rw [hb] at k1
    cases k1
    rw [k2]
    split
    · rw [List.length_append]; omega
    · rw [List.length_append, List.length_append]; omega
  refine ⟨Nat.le_trans hd (flat_le hTl key), fun hb => ?_⟩
  obtain ⟨i, t, x, p⟩ := h.mid.pick hb
  obtain ⟨L, r, k1, k2⟩ := h.pre hS hz hL p.t p.h
  have h2 := flat_le (A := T.set i (t ++ [x])) (B := Ls) (by rw [List.length_set]; exact hTl) fun j a b ha hb2 => by
    by_cases e : j = i
    · subst e
      rw [List.getElem?_set_self (List.getElem?_eq_some_iff.1 p.t).1] at ha
      cases ha
      rw [hb2] at k1
      cases k1
      rw [k2]
      simp
    · rw [List.getElem?_set_ne (Ne.symm e)] at ha
      exact key j a b ha hb2
  have h3 := (flat_put x p.t).length_eq
  rw [List.length_append, List.length_singleton] at h3
  omega
/-- A head below the one ahead of it: the file does not rise. -/
theorem not_rise {size : Int} {F : List (ByteArray × ByteArray)} {Ls : List (List ByteArray)} (hL : FilesAre size F Ls) {i : Nat} {nm C : ByteArray} (hF : F[i]? = some (nm, C)) {s : St} {b : Bu} {y : Rs} {g : List ByteArray} {x z : ByteArray} {o : Bool} (hS : SrcF s b size nm C y (g ++ [x, z]) o) (hC : C.size ≤ 3000) (hlt : ltT z x = true) : ¬ ∀ L ∈ Ls, Srt L := by
  intro h
  have hi := (List.getElem?_eq_some_iff.1 hF).1
  have hLi : Ls[i]? = some (Ls[i]'(by rw [hL.1]; exact hi)) := List.getElem?_eq_getElem _
  obtain ⟨r, hr⟩ := hS.pre (by omega) (hL.2 i nm C _ hF hLi)
  have hs := h _ (List.mem_of_getElem? hLi)
  rw [hr] at hs
  unfold Srt at hs
  rw [List.pairwise_append, List.pairwise_append] at hs
  have := hs.1.2.1
  simp only [List.pairwise_cons] at this
  have h1 := this.1 z (by simp)
  rw [le_iff.1 h1] at hlt
  cases hlt
/-- All have come, and the file is closed. -/
theorem mg_ok {s0 : St} {b0 b' : Bu} {F : List (ByteArray × ByteArray)} {out : ByteArray} {size : Int} {u : Bool} {s : St} {b : Bu} {wx : Ws} {ys : List Rs} {G : List (List ByteArray × Bool)} {T : List (List ByteArray)} {H : List Hd} {done : List ByteArray} {M : M3} (h : MgS s0 b0 F out size s b wx ys G done) (hF : FilesOk s0 F out) (hn : ys.length = F.length) (ht : MgT u G T H done) (hb : leastB H = false) (hD : Done ⟨s, b, wx⟩ M out size done) (hMc : M.s.calls ≤ s.calls + 3) (hcl : (closeM ⟨s, b, wx⟩).1 = M) (hfl : F.length ≤ 64) (hcg : callsG G ≤ 200000) (hdl : done.length ≤ 200000) (hnow : b'.now = b0.now) (hbm : b'.m = b0.m) :
    MergeR s0 b0 F out size u M.s b' (done.length : Nat) (sumN done : Nat) 0 := by
  obtain ⟨m1, m2, m3⟩ := ht.mid.end hb
  have hTl : T.length = F.length := by rw [← ht.len, ← h.src.len]; exact hn
  have hfile : ∀ (i : Nat) (nm C : ByteArray) (L : List ByteArray), F[i]? = some (nm, C) → T[i]? = some L → IsFile size C L := fun i nm C L h1 h2 => by
    have hi := (List.getElem?_eq_some_iff.1 h2).1
    have hH : H[i]? = some (H[i]'(by rw [ht.mid.len]; exact hi)) := List.getElem?_eq_getElem _
    have hz := m1 i _ hH
    have hG := ht.rel i L _ h2 hH
    rw [if_pos hz, hz] at hG
    have hy : i < ys.length := by rw [h.src.len]; exact (List.getElem?_eq_some_iff.1 hG).1
    rcases (h.src.src i nm C _ L true h1 (List.getElem?_eq_getElem hy) hG).how with ⟨k, _⟩ | ⟨_, _, _, k⟩
    · cases k
    · exact k
  have hone : ∀ Ls, FilesAre size F Ls → Ls = T := fun Ls hL => by
    refine List.ext_getElem (by rw [hL.1, hTl]) fun i h1 h2 => ?_
    have hi : i < F.length := by rw [← hTl]; exact h2
    have hf : F[i]? = some F[i] := List.getElem?_eq_getElem hi
    exact file_one (hL.2 i _ _ _ hf (List.getElem?_eq_getElem h1)) (hfile i _ _ _ hf (List.getElem?_eq_getElem h2))
  have ho := h.oth.trans hD.oth
  have hc := h.calls
  refine ⟨fun k => absurd rfl k, hD.ok.s, hnow, hbm, by omega, ⟨1, Nat.le_refl _, ho⟩, fun _ => ⟨T, hTl, fun i nm C L h1 h2 => ⟨hfile i nm C L h1 h2, m2 L (List.mem_of_getElem? h2)⟩, ?_, by rw [m3], by rw [m3], ho.len⟩, fun Ls h1 h2 _ _ _ => .inr (.inr (.inl ⟨rfl, fun L hL => ?_⟩)), fun Ls h1 h2 _ _ _ h6 h7 h8 => ⟨by decide, by decide, ?_⟩⟩
  · obtain ⟨f, f1, f2⟩ := hD.file
    exact ⟨f, f1, by rw [f2, bs_data, m3]⟩
  · rw [hone Ls ⟨h1, h2⟩] at hL
    exact m2 L hL
  · rw [hone Ls ⟨h1, h2⟩] at h8
    have hd := done_le17 ht.mid
    obtain ⟨c1, c2⟩ := h.calm h6 h7 (by omega)
    have hrm : s.room = s0.room := h.oth.room
    have := (close_fits h.wr c1 c2 (by show (_ : Int) ≤ s.room; rw [hrm]; omega)).2.1
    rw [hcl] at this
    exact this
theorem file_few {size : Int} {C : ByteArray} {L : List ByteArray} (h : IsFile size C L) : L.length ≤ C.size := by
  obtain ⟨h1, h2⟩ := h
  have hs := lay_size h1
  have hB := h1
  unfold layB at hB
  rw [Bool.and_eq_true] at hB
  have h3 : 1 ≤ size ∧ size ≤ 64 := by simpa [sizeB] using hB.1
  have h4 : (L.length : Int) * 1 ≤ L.length * size := Int.mul_le_mul_of_nonneg_left h3.1 (by omega)
  have h5 : layR size L = C := by rw [layR_yes h1, ← h2]; exact bs_toList C
  rw [h5] at hs
  omega
theorem callsG_le : ∀ {G : List (List ByteArray × Bool)}, (∀ g ∈ G, g.1.length ≤ 3000) → callsG G ≤ 3001 * G.length
  | [], _ => Nat.zero_le _
  | g :: G, h => by
    have ih := callsG_le (G := G) fun x hx => h x (by simp [hx])
    have h1 := h g (by simp)
    unfold callsG at ih ⊢
    simp only [List.map_cons, List.sum_cons, List.length_cons]
    split <;> omega
theorem Srcs.calls {s : St} {b : Bu} {size : Int} {F : List (ByteArray × ByteArray)} {ys : List Rs} {G : List (List ByteArray × Bool)} (h : Srcs s b size F ys G) (hz : ∀ p ∈ F, p.2.size ≤ 3000) (hl : F.length ≤ 64) : callsG G ≤ 200000 := by
  have h1 := callsG_le (G := G) fun g hg => by
    obtain ⟨i, hi, rfl⟩ := List.mem_iff_getElem.1 hg
    have hy : i < ys.length := by rw [h.len]; exact hi
    have hF : i < F.length := Nat.lt_of_lt_of_le hy h.le
    have hS := h.src i _ _ _ _ _ (List.getElem?_eq_getElem hF) (List.getElem?_eq_getElem hy) (List.getElem?_eq_getElem hi)
    have hC : F[i].2.size ≤ 3000 := hz _ (List.getElem_mem hF)
    rcases hS.how with ⟨_, k⟩ | ⟨_, _, _, k⟩
    · exact Nat.le_trans (Nat.le_trans (Nat.le_add_right _ 11) k.few) hC
    · exact Nat.le_trans (file_few k) hC
  have h2 := h.le
  have h3 := h.len
  omega
theorem mgT_start (u : Bool) {G : List (List ByteArray × Bool)} {H : List Hd} (hl : G.length = H.length) (hr : ∀ (i : Nat) (z : Hd), H[i]? = some z → G[i]? = some (if z.o = true then [] else [z.s], z.o)) : MgT u G (List.replicate H.length []) H [] :=
  ⟨mid_start u H, by rw [List.length_replicate]; exact hl, fun i t z ht hz => by
    rw [List.getElem?_replicate] at ht
    split at ht
    · cases ht
      exact hr i z hz
    · cases ht⟩
/-- The least head was put, and the next one of its source is there. -/
theorem MgT.next {u : Bool} {G : List (List ByteArray × Bool)} {T : List (List ByteArray)} {H : List Hd} {done t : List ByteArray} {i : Nat} {x : ByteArray} (h : MgT u G T H done) (p : PickM T H i t x) (s : ByteArray) (o : Bool) (hr : o = false → leT x s = true) : MgT u (G.set i (if o = true then t ++ [x] else (t ++ [x]) ++ [s], o)) (T.set i (t ++ [x])) (nextL H s o) (putEnd u done x) := by
  have hil : i < H.length := (List.getElem?_eq_some_iff.1 p.h).1
  have hN : nextL H s o = H.set i ⟨s, o⟩ := by unfold nextL; rw [if_pos p.b, p.n, Int.toNat_natCast]
  have hTi : i < T.length := by rw [← h.mid.len]; exact hil
  refine ⟨h.mid.next p s o hr, by rw [List.length_set, List.length_set]; exact h.len, fun j r z hj hz => ?_⟩
  rw [hN] at hz
  by_cases e : j = i
  · subst e
    rw [List.getElem?_set_self hTi] at hj
    rw [List.getElem?_set_self hil] at hz
    cases hj; cases hz
    rw [List.getElem?_set_self (by rw [h.len]; exact hTi)]
  · rw [List.getElem?_set_ne (Ne.symm e)] at hj hz ⊢
    exact h.rel j r z hj hz
/-- What was told of the source of the least head. -/
theorem MgT.head {u : Bool} {G : List (List ByteArray × Bool)} {T : List (List ByteArray)} {H : List Hd} {done t : List ByteArray} {i : Nat} {x : ByteArray} (h : MgT u G T H done) (p : PickM T H i t x) : G[i]? = some (t ++ [x], false) := by
  have := h.rel i t _ p.t p.h
  simpa using this
end Go.Proofs.YtpmglnghnelenaaGreat
