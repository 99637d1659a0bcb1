/- In one text: VcShape. -/
import Derived.Test.YtibajmjplpnbmaaP35
import Derived.Test.YtibajmjplpnbmaaP36
/- The program's store: what a file's head and size say. -/
namespace Go.Proofs.Ytibajmjplpnbmaa
open Go.RowKit FsPlain OctPlain DsPlain
set_option linter.unusedVariables false
set_option linter.unusedSimpArgs false
set_option maxRecDepth 20000
/-- What is told of a file: the disk then, how many vectors, of how many numbers, the error. -/
structure Shp where
  s : St
  n : Int
  d : Int
  e : Int
def shpN (s : St) (nm : List UInt8) : Shp :=
  if ¬ (sizeR s nm).2 = 0 then ⟨s.call, 0, 0, (sizeR s nm).2⟩
  else if (sizeR s nm).1 < 10 then ⟨s.call, 0, 0, 7⟩
  else if ¬ (readR s.call nm 0 10).2 = 0 then ⟨s.call.call, 0, 0, (readR s.call nm 0 10).2⟩
  else ⟨s.call.call, shn (bs (readR s.call nm 0 10).1) (sizeR s nm).1, shd (bs (readR s.call nm 0 10).1) (sizeR s nm).1, she (bs (readR s.call nm 0 10).1) (sizeR s nm).1⟩
theorem sizeR_le {s : St} (h : s.ok) (n : List UInt8) : 0 ≤ (sizeR s n).1 ∧ (sizeR s n).1 ≤ 16777216 := by
  unfold sizeR
  split
  · exact ⟨by decide, by decide⟩
  · cases hf : s.get n with
    | none => exact ⟨by decide, by decide⟩
    | some f =>
      have h1 := used_le (get_mem hf)
      have h2 := h.u
      have h3 := h.r1
      exact ⟨by show (0 : Int) ≤ (f.data.length : Nat); omega, by show ((f.data.length : Nat) : Int) ≤ _; omega⟩
set_option maxHeartbeats 2000000 in
theorem vshape_c (D : Nat) (s : St) (nm : ByteArray) (hn : nm.size ≤ 24) (hm : rightB nm.data.toList = true) (hk : s.calls ≤ 100000000000) (w : World) (B : Nat → Prop) (h : DiskA D s w B) :
    Calls Try.prog 30 #[.pointer (some ⟨D, 0, none⟩), .string nm] w (Does w B (DiskA D (shpN s nm.data.toList).s) (.tuple #[.int .i64 (shpN s nm.data.toList).n, .int .i64 (shpN s nm.data.toList).d, .int .i64 (shpN s nm.data.toList).e])) := by
  obtain ⟨R, hR⟩ : ∃ R, R = shpN s nm.data.toList := ⟨_, rfl⟩
  rw [← hR]
  unfold shpN at hR
  have hk1 : s.call.calls ≤ 1000000000000 := by show s.calls + 1 ≤ _; omega
  obtain ⟨z0, z1⟩ := sizeR_le h.1 nm.data.toList
  have CS := d_size D s nm (by omega) hm (by omega) w B h
  have CR := fun u B1 (h1 : DiskA D s.call u B1) => d_read D s.call nm 0 10 (by omega) hm hk1 (by omega) (by omega) u B1 h1
  obtain ⟨⟨z, ez⟩, hz⟩ : ∃ Z, Z = sizeR s nm.data.toList := ⟨_, rfl⟩
  obtain ⟨⟨t, er⟩, ht⟩ : ∃ T, T = readR s.call nm.data.toList 0 10 := ⟨_, rfl⟩
  rw [← hz] at CS z0 z1
  rw [← hz, ← ht] at hR
  rw [← ht] at CR
  dsimp only at CS CR z0 z1 hR
  have SH := fun u => shape_c (bs t) z (by unfold I64; omega) u
  unfold shV at SH
  generalize shn (bs t) z = sn at hR SH
  generalize shd (bs t) z = sd at hR SH
  generalize she (bs t) z = se at hR SH
  have CSH := Lib.hid CS
  have CRH := Lib.hid CR
  have SHH := Lib.hid SH
  clear h hm hn hk hk1 hz ht CS CR SH
  by_cases h1 : ez = 0
  · rw [if_neg (by simpa using h1)] at hR
    subst h1
    by_cases h2 : z < 10
    · rw [if_pos h2] at hR
      subst hR
      go_enter Try.func30, Try.ntmps30
      go_wp2_with fail
      refine CSH.out.mono ?_; rintro e w2 hd
      obtain ⟨rfl, B2, h2, n2⟩ := hd
      have H2 := Lib.hid h2
      have N2 := Lib.hid n2
      clear h2 n2
      go_wp2_with fail
      exact bodyPost_ret (v := .tuple #[.int .i64 0, .int .i64 0, .int .i64 7]) (by simp [results, Try.results30, go_sem]) rfl ⟨rfl, B2, H2.out, N2.out⟩
    · rw [if_neg h2] at hR
      by_cases h3 : er = 0
      · rw [if_neg (by simpa using h3)] at hR
        subst h3
        subst hR
        go_enter Try.func30, Try.ntmps30
        go_wp2_with fail
        refine CSH.out.mono ?_; rintro e w2 hd
        obtain ⟨rfl, B2, h2, n2⟩ := hd
        have C2 := Lib.hid (CRH.out w2 B2 h2)
        have N2 := Lib.hid n2
        clear h2 n2
        go_wp2_with fail
        refine C2.out.mono ?_; rintro e w3 hd
        obtain ⟨rfl, B3, h3, n3⟩ := hd
        have H3 := Lib.hid h3
        have N3 := Lib.hid (N2.out.trans n3)
        clear h3 n3 C2
        go_wp2_with fail
        refine (SHH.out _).mono ?_; rintro e w4 ⟨rfl, g4⟩
        have G4 := Lib.hid g4
        clear g4
        go_wp2_with fail
        exact bodyPost_ret (v := .tuple #[.int .i64 sn, .int .i64 sd, .int .i64 se]) (by simp [results, Try.results30, go_sem]) rfl ⟨rfl, B3, star_gr (fr_disk _ _) H3.out G4.out, N3.out.trans (Nx.gr G4.out)⟩
      · rw [if_pos h3] at hR
        have t1 : (er != 0) = true := by simpa using h3
        subst hR
        clear h3
        go_enter Try.func30, Try.ntmps30
        go_wp2_with fail
        refine CSH.out.mono ?_; rintro e w2 hd
        obtain ⟨rfl, B2, h2, n2⟩ := hd
        have C2 := Lib.hid (CRH.out w2 B2 h2)
        have N2 := Lib.hid n2
        clear h2 n2
        go_wp2_with fail
        refine C2.out.mono ?_; rintro e w3 hd
        obtain ⟨rfl, B3, h3, n3⟩ := hd
        have H3 := Lib.hid h3
        have N3 := Lib.hid (N2.out.trans n3)
        clear h3 n3 C2
        go_wp2_with fail
        exact bodyPost_ret (v := .tuple #[.int .i64 0, .int .i64 0, .int .i64 er]) (by simp [results, Try.results30, go_sem]) rfl ⟨rfl, B3, H3.out, N3.out⟩
  · rw [if_pos h1] at hR
    have t1 : (ez != 0) = true := by simpa using h1
    subst hR
    clear h1
    go_enter Try.func30, Try.ntmps30
    go_wp2_with fail
    refine CSH.out.mono ?_; rintro e w2 hd
    obtain ⟨rfl, B2, h2, n2⟩ := hd
    have H2 := Lib.hid h2
    have N2 := Lib.hid n2
    clear h2 n2
    go_wp2_with fail
    exact bodyPost_ret (v := .tuple #[.int .i64 0, .int .i64 0, .int .i64 ez]) (by simp [results, Try.results30, go_sem]) rfl ⟨rfl, B2, H2.out, N2.out⟩
end Go.Proofs.Ytibajmjplpnbmaa
