/- In one text: VcCheck, Stands, SepMore, Sb, DsLay, DsLay2. -/
import Derived.Test.YtibajmjplpnbmaaP44
import Derived.Test.YtibajmjplpnbmaaP09
import Derived.Test.YtibajmjplpnbmaaP04
import Derived.Shelf.Strings.BuilderK
import Derived.Test.YtibajmjplpnbmaaP00
import Derived.Test.YtibajmjplpnbmaaP40
/- The program's store: Check. -/
namespace Go.Proofs.Ytibajmjplpnbmaa
open Go.RowKit FsPlain OctPlain DsPlain
set_option linter.unusedVariables false
set_option linter.unusedSimpArgs false
set_option maxRecDepth 20000
/-- What Check tells: the disk then, the error. -/
def chkN (s : St) (nm : List UInt8) : St × Int :=
  if ¬ (sizeR s nm).2 = 0 then (s.call, (sizeR s nm).2)
  else if ¬ (readR s.call nm 0 (sizeR s nm).1.toNat).2 = 0 then (s.call.call, (readR s.call nm 0 (sizeR s nm).1.toNat).2)
  else (s.call.call, pE (bs (readR s.call nm 0 (sizeR s nm).1.toNat).1))
set_option maxHeartbeats 2000000 in
theorem vcheck_c (D : Nat) (s : St) (nm : ByteArray) (hn : nm.size ≤ 24) (hm : rightB nm.data.toList = true) (hk : s.calls ≤ 100000000000) (hl : (readR s.call nm.data.toList 0 (sizeR s nm.data.toList).1.toNat).1.length ≤ 90000) (w : World) (B : Nat → Prop) (h : DiskA D s w B) :
    Calls Try.prog 15 #[.pointer (some ⟨D, 0, none⟩), .string nm] w (Does w B (DiskA D (chkN s nm.data.toList).1) (.int .i64 (chkN s nm.data.toList).2)) := by
  obtain ⟨R, hR⟩ : ∃ R, R = chkN s nm.data.toList := ⟨_, rfl⟩
  rw [← hR]
  unfold chkN at hR
  have hk1 : s.call.calls ≤ 1000000000000 := by show s.calls + 1 ≤ _; omega
  obtain ⟨z0, z1⟩ := sizeR_le h.1 nm.data.toList
  have CS := d_size D s nm (by omega) hm (by omega) w B h
  have CR := fun u B1 (h1 : DiskA D s.call u B1) => d_read D s.call nm 0 (sizeR s nm.data.toList).1.toNat (by omega) hm hk1 (by omega) (by omega) u B1 h1
  obtain ⟨⟨t, er⟩, ht⟩ : ∃ T, T = readR s.call nm.data.toList 0 (sizeR s nm.data.toList).1.toNat := ⟨_, rfl⟩
  rw [← ht] at hR CR hl
  obtain ⟨⟨z, ez⟩, hz⟩ : ∃ Z, Z = sizeR s nm.data.toList := ⟨_, rfl⟩
  rw [← hz] at CS z0 z1 CR hR
  dsimp only at CS CR z0 z1 hR hl
  obtain ⟨k, rfl⟩ : ∃ k : Nat, z = (k : Int) := ⟨z.toNat, by omega⟩
  rw [Int.toNat_natCast] at CR
  have PA := fun u => parse10_c (bs t) (by show (bs t).data.size ≤ _; rw [← Array.length_toList, b_data]; exact hl) u
  unfold GotII errV at PA
  generalize pL (bs t) = pl at PA
  generalize pE (bs t) = pe at PA hR
  have CSH := Lib.hid CS
  have CRH := Lib.hid CR
  have PAH := Lib.hid PA
  clear h hm hn hk hk1 hz ht CS CR PA hl
  by_cases h1 : ez = 0
  · rw [if_neg (by simpa using h1)] at hR
    subst h1
    by_cases h3 : er = 0
    · rw [if_neg (by simpa using h3)] at hR
      subst h3
      subst hR
      go_enter Try.func15, Try.ntmps15
      go_wp2_with fail
      refine CSH.out.mono ?_; rintro e w2 hd
      obtain ⟨rfl, B2, h2, n2⟩ := hd
      have C2 := Lib.hid (CRH.out w2 B2 h2)
      have N2 := Lib.hid n2
      clear h2 n2
      go_wp2_with fail
      refine C2.out.mono ?_; rintro e w3 hd
      obtain ⟨rfl, B3, h3, n3⟩ := hd
      have H3 := Lib.hid h3
      have N3 := Lib.hid (N2.out.trans n3)
      clear h3 n3 C2
      go_wp2_with fail
      refine (PAH.out _).mono ?_; rintro e w4 ⟨v4, rfl, o4, g4⟩
      have G4 := Lib.hid g4
      clear g4 o4
      go_wp2_with fail
      go_ret
      exact ⟨rfl, B3, star_gr (fr_disk _ _) H3.out G4.out, N3.out.trans (Nx.gr G4.out)⟩
    · rw [if_pos h3] at hR
      have t1 : (er != 0) = true := by simpa using h3
      subst hR
      clear h3
      go_enter Try.func15, Try.ntmps15
      go_wp2_with fail
      refine CSH.out.mono ?_; rintro e w2 hd
      obtain ⟨rfl, B2, h2, n2⟩ := hd
      have C2 := Lib.hid (CRH.out w2 B2 h2)
      have N2 := Lib.hid n2
      clear h2 n2
      go_wp2_with fail
      refine C2.out.mono ?_; rintro e w3 hd
      obtain ⟨rfl, B3, h3, n3⟩ := hd
      have H3 := Lib.hid h3
      have N3 := Lib.hid (N2.out.trans n3)
      clear h3 n3 C2
      go_wp2_with fail
      go_ret
      exact ⟨rfl, B3, H3.out, N3.out⟩
  · rw [if_pos h1] at hR
    have t1 : (ez != 0) = true := by simpa using h1
    subst hR
    clear h1
    go_enter Try.func15, Try.ntmps15
    go_wp2_with fail
    refine CSH.out.mono ?_; rintro e w2 hd
    obtain ⟨rfl, B2, h2, n2⟩ := hd
    have H2 := Lib.hid h2
    have N2 := Lib.hid n2
    clear h2 n2
    go_wp2_with fail
    go_ret
    exact ⟨rfl, B2, H2.out, N2.out⟩
end Go.Proofs.Ytibajmjplpnbmaa
/- A disk that does not fail, with a file of these bytes: what its calls answer. -/
namespace Go.Proofs.Ytibajmjplpnbmaa
set_option linter.unusedVariables false
namespace FsPlain
/-- A disk that does not fail, with a file of these bytes. -/
structure Stands (s : St) (n : List UInt8) (D : ByteArray) : Prop where
  get : ∃ f, s.get n = some f ∧ f.data = D.data.toList
  down : s.down = false
  ahead : s.ahead = -1
theorem Stands.call {s : St} {n : List UInt8} {D : ByteArray} (h : Stands s n D) : Stands s.call n D ∧ s.call.down = false := by
  have hc : s.call.down = false := by unfold St.call; simp [h.down, h.ahead]
  exact ⟨⟨h.get, hc, by show max (s.ahead - 1) (-1) = -1; rw [h.ahead]; decide⟩, hc⟩
theorem Stands.size {s : St} {n : List UInt8} {D : ByteArray} (h : Stands s n D) : sizeR s n = ((D.size : Int), 0) := by
  obtain ⟨f, hf, hd⟩ := h.get
  unfold sizeR
  rw [if_neg (by rw [h.call.2]; decide), hf]
  simp only [hd, Array.length_toList]
  rfl
theorem Stands.readAt {s : St} {n : List UInt8} {D : ByteArray} (h : Stands s n D) (i k : Nat) (hk : i + k ≤ D.size) : readR s n i k = ((D.data.toList.drop i).take k, 0) := by
  obtain ⟨f, hf, hd⟩ := h.get
  unfold readR
  rw [if_neg (by rw [h.call.2]; decide), hf]
  simp only [hd]
  rw [if_neg (by rw [Array.length_toList]; show ¬ D.size < _; omega)]
theorem Stands.read {s : St} {n : List UInt8} {D : ByteArray} (h : Stands s n D) (k : Nat) (hk : k ≤ D.size) : readR s n 0 k = (D.data.toList.take k, 0) := by
  rw [h.readAt 0 k (by omega)]
  simp
end FsPlain
end Go.Proofs.Ytibajmjplpnbmaa
/- A name; more on parts that lie apart. -/
namespace Go.Proofs.Ytibajmjplpnbmaa
open Go.RowKit FsPlain
set_option linter.unusedVariables false
set_option linter.unusedSimpArgs false
set_option maxRecDepth 20000
def nmA : ByteArray := ⟨#[97]⟩
theorem nmA_right : rightB nmA.data.toList = true := by decide
theorem nmA_size : nmA.size ≤ 24 := by decide
theorem pre_nx {w : World} {B : Nat → Prop} (L : List Asn) {M : List Asn} (hM : Frs M) (h : stars (L ++ M) w B) : ∃ B1, stars L w B1 ∧ ∀ (L' : List Asn) (w' : World) (B' : Nat → Prop), stars L' w' B' → Nx B1 w B' w' → ∃ B3, stars (L' ++ M) w' B3 ∧ Nx B w B3 w' := by
  obtain ⟨B1, h1, k⟩ := pre_next L hM h
  exact ⟨B1, h1, fun _ _ _ => k⟩
theorem suf_nx {w : World} {B : Nat → Prop} (L : List Asn) {M : List Asn} (hL : Frs L) (h : stars (L ++ M) w B) : ∃ B1, stars M w B1 ∧ ∀ (M' : List Asn) (w' : World) (B' : Nat → Prop), stars M' w' B' → Nx B1 w B' w' → ∃ B3, stars (L ++ M') w' B3 ∧ Nx B w B3 w' := by
  obtain ⟨B1, h1, k⟩ := suf_next L hL h
  exact ⟨B1, h1, fun _ _ _ => k⟩
theorem stars_none (w : World) : stars [] w (fun _ => False) := fun _ h => h
theorem frs_app : ∀ {L M : List Asn}, Frs L → Frs M → Frs (L ++ M)
  | [], _, _, h => h
  | _ :: _, _, h, k => ⟨h.1, frs_app h.2 k⟩
theorem stars_one {P : Asn} {w : World} {B : Nat → Prop} (h : P w B) : stars [P] w B := ⟨B, fun _ => False, h, (fun _ h => h), (fun _ _ h => h), fun b => (or_false _).symm ▸ Iff.rfl⟩
theorem stars_drop {P : Asn} {L : List Asn} {w : World} {B : Nat → Prop} (h : stars (P :: L) w B) : ∃ B', stars L w B' ∧ Nx B w B' w := by
  obtain ⟨B1, B2, _, q, _, e⟩ := h
  exact ⟨B2, q, Only.refl _ _, fun b hb => .inl ((e b).2 (.inr hb))⟩
end Go.Proofs.Ytibajmjplpnbmaa
/- strings.Builder of the call's own, without strings.Join: WriteString and String, by the library's contracts; a builder as one word. -/
namespace Go.Proofs.Ytibajmjplpnbmaa
open Go.RowKit
set_option linter.unusedVariables false
set_option linter.unusedSimpArgs false
set_option maxRecDepth 20000
/-- What a write to it leaves: blocks that are neither the builder nor rows of bytes. -/
def SBKept (b : Nat) (w w' : World) : Prop := Lib.OthersKept 5 (some b) w w'
theorem byteCells_two (a b : List UInt8) : Lib.byteCells (a ++ b) = Lib.byteCells a ++ Lib.byteCells b := by simp [Lib.byteCells]
end Go.Proofs.Ytibajmjplpnbmaa
/- Contracts of the program's Lay. -/
namespace Go.Proofs.Ytibajmjplpnbmaa
open Go.RowKit OctPlain DsPlain
set_option linter.unusedVariables false
set_option linter.unusedSimpArgs false
set_option maxRecDepth 20000
def phS (n d : Nat) : ByteArray := if (nB n && dB d) = true then bs (headL n d) else ⟨#[]⟩
theorem vecB_len {d : Nat} {y : List Int} (h : ¬ y.length = d) : vecB d y = false := by unfold vecB; rw [decide_eq_false h]; rfl
theorem vecB_fit {d : Nat} {y : List Int} {z : Int} (h : z ∈ y) (hz : fitI z = false) : vecB d y = false := by
  unfold vecB
  have : y.all fitI = false := by rw [List.all_eq_false]; exact ⟨z, h, by rw [hz]; simp⟩
  rw [this, Bool.and_false]
end Go.Proofs.Ytibajmjplpnbmaa
/- The contract of the program's Lay. -/
namespace Go.Proofs.Ytibajmjplpnbmaa
open Go.RowKit OctPlain DsPlain
set_option linter.unusedVariables false
set_option linter.unusedSimpArgs false
set_option maxRecDepth 20000
namespace DsPlain
theorem right_head {L : List (List Int)} (h : (nB L.length && dB (dimN L)) = false) : right L = false := by unfold right; rw [h]; rfl
theorem right_row {L : List (List Int)} {y : List Int} (h : y ∈ L) (hy : vecB (dimN L) y = false) : right L = false := by
  unfold right
  have : L.all (vecB (dimN L)) = false := by rw [List.all_eq_false]; exact ⟨y, h, by rw [hy]; simp⟩
  rw [this, Bool.and_false]
theorem right_all {L : List (List Int)} (h : (nB L.length && dB (dimN L)) = true) (hy : L.all (vecB (dimN L)) = true) : right L = true := by unfold right; rw [h, hy]; rfl
theorem dim_of {L : List (List Int)} {y : List Int} (h : L[0]? = some y) : dimN L = y.length := by
  unfold dimN
  rw [List.headD_eq_head?_getD, List.head?_eq_getElem?, h]; rfl
theorem vecB_length {d : Nat} {y : List Int} (h : vecB d y = true) : y.length = d := by
  unfold vecB at h
  simp only [Bool.and_eq_true, decide_eq_true_eq] at h
  exact h.1
end DsPlain
end Go.Proofs.Ytibajmjplpnbmaa
