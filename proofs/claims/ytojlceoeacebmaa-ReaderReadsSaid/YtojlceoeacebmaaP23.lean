/- In one text: RecAwake, RdReads. -/
import Derived.Test.YtojlceoeacebmaaP22
import Derived.Test.YtojlceoeacebmaaP18
import Derived.Test.YtojlceoeacebmaaP19
import Derived.Test.YtojlceoeacebmaaP20
import Derived.Test.YtojlceoeacebmaaP06
import Derived.Test.YtojlceoeacebmaaP00
import Derived.Maps.AppendAt
/- The law's Few; Parse of a file and of none; the chapter's example. -/
namespace Go.Proofs.Ytojlceoeacebmaa
open Go.RowKit CrcPlain OctPlain FramePlain RecPlain
set_option linter.unusedVariables false
set_option linter.unusedSimpArgs false
set_option maxRecDepth 20000
/-- What Parse of a file comes to. -/
def PFile (L : List ByteArray) (w : World) (e : Ending) (w' : World) : Prop := ∃ v, e = .returned (.tuple #[v, .agg #[.int .i64 (L.length : Nat), .int .u32 (sumN L : Nat)], .int .i64 0]) ∧ Lies w' v L ∧ Gr w w'
def PNone (w : World) (e : Ending) (w' : World) : Prop := e = .returned (.tuple #[.slice none 0 0, .agg #[.int .i64 0, .int .u32 0], .int .i64 6]) ∧ Gr w w'
theorem pgot_file {size : Int} {s : ByteArray} {L : List ByteArray} (h : IsFile size s L) {w : World} {e : Ending} {w' : World} (g : PGot size s w e w') : PFile L w e w' := by
  rcases g with ⟨L', v, h1, h2, h3, h4⟩ | ⟨h1, _⟩
  · obtain rfl := file_one h h1
    exact ⟨v, h2, h3, h4⟩
  · exact absurd h (h1 L)
theorem pgot_none {size : Int} {s : ByteArray} (h : ∀ L, ¬ IsFile size s L) {w : World} {e : Ending} {w' : World} (g : PGot size s w e w') : PNone w e w' := by
  rcases g with ⟨L', v, h1, _⟩ | ⟨_, h2, h3⟩
  · exact absurd h1 (h L')
  · exact ⟨h2, h3⟩
theorem lies_nil (w : World) : Lies w (.slice none 0 0) [] := ⟨none, 0, rfl, Nat.le_refl _, .inl rfl⟩
/-- What is laid is a file. -/
theorem lay_file {size : Int} {L : List ByteArray} (h : layB size L = true) : IsFile size (layR size L) L := ⟨h, by rw [layR_yes h, bs_data]⟩
theorem lay_size {size : Int} {L : List ByteArray} (h : layB size L = true) : ((layR size L).size : Int) = 28 + 5 * (((L.length : Int) + 3) / 4) + L.length * size := by
  have hs := h
  unfold layB at hs
  rw [Bool.and_eq_true] at hs
  have h1 := hs.1
  simp only [sizeB, decide_eq_true_eq] at h1
  obtain ⟨m, rfl⟩ : ∃ m : Nat, size = m := ⟨size.toNat, by omega⟩
  rw [layR_yes h, bs_size, layL_length h]
  unfold cnt4
  rw [Int.natCast_add, Int.natCast_add, Int.natCast_mul]
  omega
theorem head_apart {a b : Int} {s : ByteArray} {l m : List ByteArray} (h1 : IsFile a s l) (h2 : IsFile b s m) : a = b := by
  have e := (file_head h1).1.symm.trans (file_head h2).1
  have e2 := List.append_cancel_right e
  have ha := h1.1
  have hb := h2.1
  unfold layB at ha hb
  rw [Bool.and_eq_true] at ha hb
  have ha := ha.1
  have hb := hb.1
  simp only [sizeB, decide_eq_true_eq] at ha hb
  unfold headS at e2
  rw [cl_data, cl_data, bs_data, bs_data] at e2
  have e3 := congrArg (fun l => l[6]?) e2
  simp [nameL] at e3
  have := congrArg UInt8.toNat e3
  rw [UInt8.toNat_ofNat', UInt8.toNat_ofNat'] at this
  omega
end Go.Proofs.Ytojlceoeacebmaa
/- What ReaderReads walks with: what holds at each round, and behind the last one; a reader and the row of what it told. -/
namespace Go.Proofs.Ytojlceoeacebmaa
open Go.RowKit FsPlain CrcPlain OctPlain FramePlain RecPlain RdPlain
set_option linter.unusedVariables false
set_option linter.unusedSimpArgs false
set_option maxRecDepth 20000
namespace RdPlain
/-- What holds at the head of a round: what was told, and what waits, are all that was read. -/
structure ReadN (m : N3) (D : ByteArray) (nn : Int) (got : List ByteArray) : Prop where
  ok : m.ok
  inv : m.inv
  told : m.x.told = got.length
  calls : m.s.calls ≤ 10 + (got.length : Int)
  opn : m.x.opn = true
  bud : m.b = ⟨4, 4, 4⟩
  size : m.x.size = nn
  at_ : ∃ ps r, At m D ps r
  all : got ++ m.x.queue = m.x.all
theorem ReadN.few {m : N3} {D : ByteArray} {nn : Int} {got : List ByteArray} (h : ReadN m D nn got) (hD : D.size ≤ 700 ∨ ∃ L, IsFile nn D L ∧ L.length ≤ 30) : got.length ≤ 689 := by
  obtain ⟨ps, r, ha⟩ := h.at_
  have h1 := congrArg List.length h.all
  rw [List.length_append] at h1
  rcases hD with h2 | ⟨L, h2, h3⟩
  · have := ha.few; omega
  · have := ha.start (by rw [h.size]; exact h2); omega
/-- Behind the last round. -/
structure Last (M : N3) (D : ByteArray) (nn : Int) (got : List ByteArray) (e : Int) : Prop where
  opn : M.x.opn = false
  inv : M.inv
  bud : M.b = ⟨4, 0, 4⟩
  how : (e = 0 ∧ IsFile nn D got ∧ M.x.whole = true ∧ M.x.ec = (got.length : Nat) ∧ M.x.em = (sumN got : Nat)) ∨ (e = 6 ∧ ∀ L, ¬ IsFile nn D L)
theorem ReadN.popped {m : N3} {D : ByteArray} {nn : Int} {got : List ByteArray} (hok : m.ok) (hi : m.inv) (ht : m.x.told = got.length) (hc : m.s.calls ≤ 11 + (got.length : Int)) (ho : m.x.opn = true) (hb : m.b = ⟨4, 4, 4⟩) (hs : m.x.size = nn) (ha : ∃ ps r, At m D ps r) (hal : got ++ m.x.queue = m.x.all) (hq : m.x.queue ≠ []) : ReadN (popN m).1 D nn (got ++ [(popN m).2.1]) := by
  obtain ⟨r, q, hr⟩ := List.exists_cons_of_ne_nil hq
  obtain ⟨ps, rr, ha⟩ := ha
  refine ⟨ok_popped hok hq, ⟨hi.o, hi.c, hi.e0, fun h => ?_⟩, ?_, ?_, ho, hb, hs, ⟨ps, rr, ha.popped⟩, ?_⟩
  · have h : m.x.whole = true := h
    rw [(hi.o ho).2] at h; cases h
  · show m.x.told + 1 = _; rw [ht, List.length_append]; rfl
  · show m.s.calls ≤ _; rw [List.length_append, List.length_singleton, Int.natCast_add]; simp only [Int.natCast_one]; omega
  · show (got ++ [m.x.queue.headD ⟨#[]⟩]) ++ m.x.queue.tail = m.x.all
    rw [← hal, hr]; simp
theorem read_next {m : N3} {D : ByteArray} {nn : Int} {got : List ByteArray} (h : ReadN m D nn got) (hD : D.size ≤ 3000) :
    ((nextN m).2.2.1 = true ∧ ReadN (nextN m).1 D nn (got ++ [(nextN m).2.1])) ∨ ((nextN m).2.2.1 = false ∧ Last (nextN m).1 D nn got (nextN m).2.2.2) := by
  obtain ⟨hok, hi, ht, hc, ho, hb, hs, ⟨ps, r, ha⟩, hal⟩ := h
  have hle : m.x.all.length ≤ 1000000 := by have := ha.few; omega
  unfold nextN
  rw [if_neg (by rw [ho]; decide)]
  by_cases hq : m.x.queue = []
  · rw [if_pos hq]
    have he := ha.read.1
    have n1 : ¬ ¬ errN m = 0 := fun k => k he
    have hg : got = m.x.all := by rw [← hal, hq, List.append_nil]
    have hw := hi.o ho
    by_cases hE : isEnd m.x (bytesN m)
    · have hF : fillN m = (shutN (m.asked.ended (bytesN m)), noneA 0) := by unfold fillN; rw [if_neg n1, if_pos hE]
      have hsh : shutN (m.asked.ended (bytesN m)) = ⟨m.s.call, m.b.give 4, { m.x with whole := true, ec := eC (bytesN m), em := eM (bytesN m), opn := false }⟩ := by
        unfold shutN; rw [if_pos (show (m.asked.ended (bytesN m)).x.opn = true from ho)]; rfl
      have hin : (shutN (m.asked.ended (bytesN m))).inv := by
        have := inv_nextN hi hok
        have hn : nextN m = (shutN (m.asked.ended (bytesN m)), noneA 0) := by unfold nextN; rw [if_neg (by rw [ho]; decide), if_pos hq, hF]
        rw [hn] at this; exact this
      rw [hF]
      refine .inr ⟨rfl, ?_⟩
      refine ⟨by rw [hsh], hin, by rw [hsh, hb]; rfl, .inl ⟨rfl, ?_, by rw [hsh], ?_, ?_⟩⟩
      · rw [hg, ← hs]; exact ha.file hle ((ha.ends hle).1 hE)
      · rw [hsh, hg]; exact hE.2.2.2.1
      · rw [hsh, hg]; exact hE.2.2.2.2
    · obtain ⟨g1, g2, g3⟩ := ha.got
      have ht' : ¬ tailB m.x.all r = true := fun k => hE ((ha.ends hle).2 k)
      by_cases h3 : gB m.x.size (bytesN m) = false ∨ m.x.short = true
      · have hF : fillN m = (wrongN m.asked, noneA 6) := by unfold fillN; rw [if_neg n1, if_neg hE, if_pos h3]
        have hsh : wrongN m.asked = ⟨m.s.call, m.b.give 4, { m.x with bad := true, opn := false }⟩ := by
          unfold wrongN shutN; rw [if_pos (show m.asked.isBad.x.opn = true from ho)]; rfl
        rw [hF]
        refine .inr ⟨rfl, by rw [hsh], ?_, by rw [hsh, hb]; rfl, .inr ⟨rfl, fun L => ?_⟩⟩
        · exact inv_wrong (m := m.asked) ⟨hi.o, hi.c, hi.e0, hi.e1⟩ ho
        · rw [← hs]; exact ha.none hle (by rw [← g1]; exact h3) ht' L
      · have hF : fillN m = popN (m.asked.filled (bytesN m)) := by unfold fillN; rw [if_neg n1, if_neg hE, if_neg h3]
        have hgb : gB m.x.size (bytesN m) = true := by
          cases hgb : gB m.x.size (bytesN m)
          · exact absurd (.inl hgb) h3
          · rfl
        have hsf : m.x.short = false := by
          cases hsf : m.x.short
          · rfl
          · exact absurd (.inr hsf) h3
        obtain ⟨k1, k2⟩ := ok_filled (m := m.asked) (ok_asked hok) hgb (by rw [bytesN_size he]; exact ask_left _) hq
        obtain ⟨r', ha'⟩ := ha.block (by rw [← g1]; exact hgb) hsf
        rw [hF]
        refine .inl ⟨rfl, ReadN.popped (m := m.asked.filled (bytesN m)) k1 ⟨hi.o, hi.c, hi.e0, fun k => ?_⟩ ht ?_ ho hb hs ⟨_, r', ha'⟩ ?_ k2⟩
        · have k : m.x.whole = true := k
          rw [hw.2] at k; cases k
        · show m.s.calls + 1 ≤ _; omega
        · show got ++ gL m.x.size (bytesN m) = m.x.all ++ gL m.x.size (bytesN m); rw [hg]
  · rw [if_neg hq]
    exact .inl ⟨rfl, ReadN.popped hok hi ht (by omega) ho hb hs ⟨ps, r, ha⟩ hal hq⟩
theorem read_open {D : ByteArray} {nn : Int} (hz : sizeB nn = true) (hD : D.size ≤ 3000) (R : St × Bu × Int × Nat) (hR : R = openN (stA 1048576 D) ⟨4, 0, 0⟩ nmA nn) :
    (R.2.2.1 = 0 ∧ ReadN ⟨R.1, R.2.1, newRs nmA nn R.2.2.2⟩ D nn []) ∨ (R.2.2.1 = 6 ∧ (∀ L, ¬ IsFile nn D L) ∧ R.2.1 = ⟨4, 0, 4⟩) := by
  subst hR
  have hs : (stA 1048576 D).ok := stA_ok (by decide) (by decide) (by omega)
  have hb : (Bu.mk 4 0 0).ok := ⟨Int.le_refl 0, Int.le_refl 0, by decide, by decide⟩
  rcases open_at (b := ⟨4, 0, 0⟩) (st_stands 1048576 D) hz (by decide) with ⟨h0, r, ha⟩ | ⟨h6, hn, hbu⟩
  · refine .inl ⟨h0, openN_ok hs hb nmA_size nmA_right h0, inv_new _ _ _ _ _, rfl, ?_, rfl, ?_, rfl, ⟨[], r, ha⟩, rfl⟩
    · have hc := openN_calls (stA 1048576 D) ⟨4, 0, 0⟩ nmA nn
      have : (stA 1048576 D).calls = 2 := rfl
      show (openN (stA 1048576 D) ⟨4, 0, 0⟩ nmA nn).1.calls ≤ 10 + ((0 : Nat) : Int)
      simp only [Int.natCast_zero]; omega
    · obtain ⟨_, _, _, _, _, _, _, e⟩ := openN_yes h0
      rw [e]; rfl
  · exact .inr ⟨h6, hn, by rw [hbu]; rfl⟩
end RdPlain
def infR (n s : Int) : Array Value := #[.int .i64 n, .int .u32 s]
/-- What was told, the reader, and what Parse told. -/
def r4 (sv : Value) (got : List ByteArray) (x p pb : Nat) (m : N3) (av : Value) (al : List ByteArray) (q : Nat) (pc ps : Int) : List Asn := [RowA sv got, RP3 x p pb m, QueA av al, Blk q (infR pc ps) 35]
theorem frs_r4 (sv : Value) (got : List ByteArray) (x p pb : Nat) (m : N3) (av : Value) (al : List ByteArray) (q : Nat) (pc ps : Int) : Frs (r4 sv got x p pb m av al q pc ps) := ⟨fr_row _ _, fr_rp3 _ _ _ _, fr_que _ _, fr_blk _ _ _, trivial⟩
/-- What holds at a round's head. -/
def ReadsAt (w : World) (x p pb : Nat) (D : ByteArray) (nn : Int) (av : Value) (al : List ByteArray) (q : Nat) (pc ps : Int) (sv iv : Value) (wr : World) : Prop :=
  ∃ (got : List ByteArray) (m : N3), iv = .int .i64 got.length ∧ ReadN m D nn got ∧ ∃ B, stars (r4 sv got x p pb m av al q pc ps) wr B ∧ Nx (fun _ => False) w B wr
theorem r4_next {x p pb q : Nat} {pc ps : Int} {sv av : Value} {got al : List ByteArray} {m : N3} {D : ByteArray} {nn : Int} (h : ReadN m D nn got) (hf : got.length ≤ 689) {w : World} {B : Nat → Prop} (hB : stars (r4 sv got x p pb m av al q pc ps) w B) :
    Calls Try.prog 13 #[.pointer (some ⟨x, 0, none⟩)] w (Does w B (stars (r4 sv got x p pb (nextN m).1 av al q pc ps)) (ansV (nextN m).2)) :=
  does_at (Q := RP3 x p pb (nextN m).1) 1 rfl (frs_r4 _ _ _ _ _ _ _ _ _ _ _) hB fun B1 h1 => rp_next x p pb m h.ok h.inv (by have := h.told; omega) (by have := h.calls; omega) w B1 h1
theorem r4_app {x p pb q : Nat} {pc ps : Int} {sv v' av : Value} {got al : List ByteArray} {m : N3} {r : ByteArray} {n : Nat} {wr w1 w' : World} {B : Nat → Prop} (h : stars (r4 sv got x p pb m av al q pc ps) wr B) (hn : got.length = n) (g : Gr wr w1) (hown : w'.ownsRow 0 9 1 v' (n + 1) (strs got ++ [.string r])) (hg : w1.grownBy w' sv.ownBlock) (hat : v'.ownBlock = sv.ownBlock ∨ v'.ownBlock = some w1.heap.size) :
    ∃ B', stars (r4 v' (got ++ [r]) x p pb m av al q pc ps) w' B' ∧ Nx B wr B' w' :=
  step_at (Q := RowA v' (got ++ [r])) 0 rfl (frs_r4 _ _ _ _ _ _ _ _ _ _ _) h fun B1 h1 => row_app h1 g (by rw [hn]; exact hown) hg hat
/-- What Parse tells. -/
def PHow (nn : Int) (D : ByteArray) (al : List ByteArray) (pc ps pe : Int) : Prop := (pe = 0 ∧ IsFile nn D al ∧ pc = (al.length : Nat) ∧ ps = (sumN al : Nat)) ∨ (pe = 6 ∧ ∀ L, ¬ IsFile nn D L)
theorem rparse_q (nn : Int) (hk : I64 nn) (D : ByteArray) (hz : D.size ≤ 3000) (w : World) :
    Calls Try.prog 9 #[.int .i64 nn, .string D] w fun e w' => ∃ al v pc ps pe B, e = .returned (.tuple #[v, .agg #[.int .i64 pc, .int .u32 ps], .int .i64 pe]) ∧ PHow nn D al pc ps pe ∧ QueA v al w' B ∧ (∀ b, B b → w.heap.size ≤ b) ∧ Gr w w' := by
  refine (rparse_n nn hk D hz w).mono ?_
  rintro e w' (⟨L, v, h1, rfl, h3, g⟩ | ⟨h1, rfl, g⟩)
  · obtain ⟨q1, q2⟩ := que_new h3
    exact ⟨L, v, _, _, 0, _, rfl, .inl ⟨rfl, h1, rfl, rfl⟩, q1, q2, g⟩
  · exact ⟨[], _, 0, 0, 6, _, rfl, .inr ⟨rfl, h1⟩, que_nil w', (fun b hb => hb.elim), g⟩
/-- Behind the choice of the file's bytes. -/
def BytesAt (w : World) (p pb : Nat) (nn : Int) (sv : Value) (wr : World) : Prop :=
  ∃ D : ByteArray, sv = .string D ∧ D.size ≤ 3000 ∧ (D.size ≤ 700 ∨ ∃ L, IsFile nn D L ∧ L.length ≤ 30) ∧ ∃ B, stars [DiskA p (fresh 1048576), BuA pb ⟨4, 0, 0⟩] wr B ∧ Nx (fun _ => False) w B wr
theorem lay_size3 {nn : Int} {L : List ByteArray} (h : layB nn L = true) (hl : L.length ≤ 30) : (layR nn L).size ≤ 3000 := by
  have hs := h
  unfold layB at hs
  rw [Bool.and_eq_true] at hs
  have h1 := hs.1
  simp only [sizeB, decide_eq_true_eq] at h1
  obtain ⟨m, rfl⟩ : ∃ m : Nat, nn = m := ⟨nn.toNat, by omega⟩
  rw [layR_yes h, bs_size, layL_length h]
  unfold cnt4
  have hm : L.length * m ≤ 30 * 64 := Nat.mul_le_mul hl (by omega)
  omega
theorem rp_bu {x p pb : Nat} {m : N3} {w : World} {B : Nat → Prop} (h : RP3 x p pb m w B) : BAt w pb m.b := by
  rcases h with ⟨_, vq, h⟩ | ⟨_, h⟩
  · obtain ⟨_, h2, _⟩ := part_at 3 rfl h; exact h2.at
  · obtain ⟨_, h2, _⟩ := part_at 3 rfl h; exact h2.at
end Go.Proofs.Ytojlceoeacebmaa
