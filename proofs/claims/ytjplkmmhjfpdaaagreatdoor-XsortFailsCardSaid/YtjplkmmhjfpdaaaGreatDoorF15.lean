/- In one text: XsIs, MgDisk, MgArg, RnStr, RnRef, RnRef2, MgRef, Few, RecSum, Told. -/
import Derived.Shelf.Strings.SlTrimAscii
import Derived.Test.YtjplkmmhjfpdaaaGreatDoorF14
import Derived.Test.YtjplkmmhjfpdaaaGreatDoorF13
import Derived.Test.YtjplkmmhjfpdaaaGreatDoorF00
import Derived.Test.YtjplkmmhjfpdaaaGreatDoorF05
import Derived.Maps.AppendAt
import Derived.Deep.AppendLies
import Derived.Test.YtjplkmmhjfpdaaaGreatDoorF09
import Derived.WalkKit
import Derived.ProofKit
import Derived.OwnWalk
import Derived.Lib.Strings
import Derived.Below
import Derived.Handy
import Derived.WalkLawsBesides
import Derived.Outline
import Derived.StillTailTactics
import Derived.RangeFuncNested
import Derived.RangeFuncBox
/- strings.Trim: the library's contract, laid at this program's numbers; prefixes; the program's Is, Passes and begin. -/
namespace Go.Proofs.YtjplkmmhjfpdaaaGreatDoor
open Go.RowKit Go.Shelf FsPlain RnPlain XsPlain
set_option linter.unusedVariables false
set_option linter.unusedSimpArgs false
set_option maxRecDepth 20000
def trimL18_ren : Go.Shelf.Ren := ⟨fun | 160 => 57 | 232 => 80 | 231 => 79 | 227 => 81 | 234 => 83 | 233 => 82 | 236 => 85 | 235 => 84 | 228 => 106 | 271 => 109 | 151 => 108 | 197 => 107 | 120 => 130 | 152 => 129 | 260 => 128 | 137 => 163 | 119 => 164 | 224 => 165 | 225 => 166 | 217 => 188 | 266 => 201 | n => n, fun | 9 => 9 | 4 => 4 | 3 => 3 | 5 => 5 | 117 => 119 | 116 => 118 | 0 => 0 | 124 => 122 | 21 => 21 | 105 => 139 | 46 => 124 | 119 => 193 | 139 => 196 | 138 => 195 | n => n, fun | 3 => 0 | 4 => 1 | n => n⟩
theorem trimL18 : Go.Proofs.Lays.n160 Tryz.prog trimL18_ren := {
  mixed := by kernel_rfl
  f119 := Tryz.func164.trans (congrArg some (by kernel_rfl))
  f120 := Tryz.func130.trans (congrArg some (by kernel_rfl))
  f137 := Tryz.func163.trans (congrArg some (by kernel_rfl))
  f151 := Tryz.func108.trans (congrArg some (by kernel_rfl))
  f152 := Tryz.func129.trans (congrArg some (by kernel_rfl))
  f160 := Tryz.func57.trans (congrArg some (by kernel_rfl))
  f197 := Tryz.func107.trans (congrArg some (by kernel_rfl))
  f217 := Tryz.func188.trans (congrArg some (by kernel_rfl))
  f224 := Tryz.func165.trans (congrArg some (by kernel_rfl))
  f225 := Tryz.func166.trans (congrArg some (by kernel_rfl))
  f227 := Tryz.func81.trans (congrArg some (by kernel_rfl))
  f228 := Tryz.func106.trans (congrArg some (by kernel_rfl))
  f231 := Tryz.func79.trans (congrArg some (by kernel_rfl))
  f232 := Tryz.func80.trans (congrArg some (by kernel_rfl))
  f233 := Tryz.func82.trans (congrArg some (by kernel_rfl))
  f234 := Tryz.func83.trans (congrArg some (by kernel_rfl))
  f235 := Tryz.func84.trans (congrArg some (by kernel_rfl))
  f236 := Tryz.func85.trans (congrArg some (by kernel_rfl))
  f260 := Tryz.func128.trans (congrArg some (by kernel_rfl))
  f266 := Tryz.func201.trans (congrArg some (by kernel_rfl))
  f271 := Tryz.func109.trans (congrArg some (by kernel_rfl))
  t0 := Tryz.underlying0
  a0 := Tryz.isAgg0
  z0 := Tryz.sizeOf0
  v0 := Tryz.zeroValue0
  t3 := Tryz.underlying3
  a3 := Tryz.isAgg3
  z3 := Tryz.sizeOf3
  v3 := Tryz.zeroValue3
  t4 := Tryz.underlying4
  a4 := Tryz.isAgg4
  z4 := Tryz.sizeOf4
  v4 := Tryz.zeroValue4
  t5 := Tryz.underlying5
  a5 := Tryz.isAgg5
  z5 := Tryz.sizeOf5
  v5 := Tryz.zeroValue5
  t9 := Tryz.underlying9
  a9 := Tryz.isAgg9
  z9 := Tryz.sizeOf9
  v9 := Tryz.zeroValue9
  t21 := Tryz.underlying21
  a21 := Tryz.isAgg21
  z21 := Tryz.sizeOf21
  v21 := Tryz.zeroValue21
  t46 := Tryz.underlying124
  a46 := Tryz.isAgg124
  z46 := Tryz.sizeOf124
  v46 := Tryz.zeroValue124
  t105 := Tryz.underlying139
  a105 := Tryz.isAgg139
  z105 := Tryz.sizeOf139
  v105 := Tryz.zeroValue139
  t116 := Tryz.underlying118
  a116 := Tryz.isAgg118
  z116 := Tryz.sizeOf118
  t117 := Tryz.underlying119
  a117 := Tryz.isAgg119
  z117 := Tryz.sizeOf119
  v117 := Tryz.zeroValue119
  t119 := Tryz.underlying193
  a119 := Tryz.isAgg193
  z119 := Tryz.sizeOf193
  t124 := Tryz.underlying122
  a124 := Tryz.isAgg122
  z124 := Tryz.sizeOf122
  v124 := Tryz.zeroValue122
  t138 := Tryz.underlying195
  a138 := Tryz.isAgg195
  z138 := Tryz.sizeOf195
  v138 := Tryz.zeroValue195
  t139 := Tryz.underlying196
  a139 := Tryz.isAgg196
  z139 := Tryz.sizeOf196
  v139 := Tryz.zeroValue196
  g3 := by kernel_rfl
  g4 := by kernel_rfl }
theorem drop_nil18 {p : UInt8 → Bool} {l : List UInt8} : l.dropWhile p = [] ↔ l.all p = true := by
  induction l with
  | nil => simp
  | cons a l ih =>
    rw [List.dropWhile_cons]
    cases h : p a
    · simp [h]
    · simp [h, ih]
theorem trim_nil18 {l cs : List UInt8} : Lib.trimS l cs = [] ↔ l.all (cs.contains ·) = true := by
  unfold Lib.trimS Lib.trimLeftS Lib.trimRightS
  rw [drop_nil18]
  constructor
  · intro h
    rw [List.all_reverse] at h
    have hd : l.reverse.dropWhile (cs.contains ·) = [] := by
      cases e : l.reverse.dropWhile (cs.contains ·) with
      | nil => rfl
      | cons a r =>
        have h1 := List.head?_dropWhile_not (cs.contains ·) l.reverse
        rw [e] at h h1
        simp only [List.head?_cons, Bool.not_eq_true'] at h1
        simp only [List.all_cons, Bool.and_eq_true] at h
        rw [h.1] at h1
        cases h1
    have := drop_nil18.1 hd
    rwa [List.all_reverse] at this
  · intro h
    have hd : l.reverse.dropWhile (cs.contains ·) = [] := drop_nil18.2 (by rw [List.all_reverse]; exact h)
    rw [hd]
    rfl
theorem way_cut : ∀ c : UInt8, ([46, 48, 49, 50, 51, 52, 53, 54, 55, 56, 57] : List UInt8).contains c = wayB c := by
  intro c
  have h : ∀ n : Fin 256, ([46, 48, 49, 50, 51, 52, 53, 54, 55, 56, 57] : List UInt8).contains (UInt8.ofNat n.val) = wayB (UInt8.ofNat n.val) := by decide +kernel
  have := h ⟨c.toNat, c.toNat_lt⟩
  simpa using this
theorem info18A : (Tryz.prog.info? 118).map (fun i => (i.zero, i.size)) = some (some (.agg (Array.replicate 256 (.bool false))), 256) := by kernel_rfl
theorem trim18_c (s : ByteArray) (hs : s.size ≤ 1000) : ∃ t : ByteArray, t.toList.isEmpty = s.data.toList.all wayB ∧ ∀ w, Calls Tryz.prog 57 #[.string s, .string ⟨#[46, 48, 49, 50, 51, 52, 53, 54, 55, 56, 57]⟩] w fun e w' => e = .returned (.string t) ∧ Gr w w' := by
  refine ⟨_, ?_, fun w => Any.strings_Trim_laid trimL18 info18A s _ w (by omega) (by decide) (ascii_of_all (by decide))⟩
  rw [Lib.toList_data, Bool.eq_iff_iff, List.isEmpty_iff]
  show Lib.trimS _ _ = [] ↔ _
  rw [trim_nil18]
  have : (fun c => ([46, 48, 49, 50, 51, 52, 53, 54, 55, 56, 57] : List UInt8).contains c) = wayB := funext way_cut
  show s.data.toList.all (fun c => ([46, 48, 49, 50, 51, 52, 53, 54, 55, 56, 57] : List UInt8).contains c) = true ↔ _
  rw [this]
namespace XsPlain
def begB (s p : ByteArray) : Bool := decide (p.size ≤ s.size) && (s.data.toList.take p.size == p.data.toList)
theorem is_pre {name out : ByteArray} (h : begB name (out ++ (⟨#[46, 114]⟩ : ByteArray)) = true) : isB name.data.toList out.data.toList = (!(name.data.toList.drop (out.size + 2)).isEmpty && (name.data.toList.drop (out.size + 2)).all wayB) := by
  unfold begB at h
  have hz : (out ++ (⟨#[46, 114]⟩ : ByteArray)).size = out.size + 2 := by simp; rfl
  rw [hz, ← Lib.toList_data (out ++ (⟨#[46, 114]⟩ : ByteArray)), app_data18, Bool.and_eq_true, decide_eq_true_iff] at h
  have hl : out.data.toList.length = out.size := rfl
  have hn : name.data.toList.length = name.size := rfl
  by_cases hlt : out.size + 2 < name.size
  · rw [is_rest (by rw [hl, hn]; exact hlt) (by rw [hl]; exact h.2), hl]
    have : (name.data.toList.drop (out.size + 2)).isEmpty = false := by
      rw [List.isEmpty_eq_false_iff]
      intro e
      have := congrArg List.length e
      rw [List.length_drop, hn] at this
      simp at this
      omega
    rw [this]; rfl
  · rw [is_short (by rw [hl, hn]; exact hlt), List.drop_of_length_le (by rw [hn]; omega)]
    rfl
theorem is_nopre {name out : ByteArray} (h : begB name (out ++ (⟨#[46, 114]⟩ : ByteArray)) = false) : isB name.data.toList out.data.toList = false := by
  unfold begB at h
  have hz : (out ++ (⟨#[46, 114]⟩ : ByteArray)).size = out.size + 2 := by simp; rfl
  have hl : out.data.toList.length = out.size := rfl
  have hn : name.data.toList.length = name.size := rfl
  rw [hz, ← Lib.toList_data (out ++ (⟨#[46, 114]⟩ : ByteArray)), app_data18] at h
  by_cases hle : out.size + 2 ≤ name.size
  · rw [decide_eq_true hle, Bool.true_and] at h
    exact is_other (by rw [hl]; exact h)
  · exact is_short (by rw [hl, hn]; omega)
end XsPlain
theorem hasp18_c (s p : ByteArray) (w : World) :
    Calls Tryz.prog 90 #[.string s, .string p] w fun e w' => e = .returned (.bool (begB s p)) ∧ w' = w := by
  obtain ⟨r, hr⟩ : ∃ r, begB s p = r := ⟨_, rfl⟩
  rw [hr]
  unfold begB at hr
  by_cases h : p.size ≤ s.size
  · rw [decide_eq_true h, Bool.true_and] at hr
    have SL := fun (w : World) => slice_to18 s p.size h w
    have hq : ((s.extract 0 p.size).toList == p.toList) = r := by rw [ext_data18, Lib.toList_data]; exact hr
    have hI : (p.size : Int) ≤ (s.size : Int) := by omega
    have hd : decide ((p.size : Int) ≤ (s.size : Int)) = true := decide_eq_true hI
    clear hr
    cases r <;>
    · go_enter Tryz.func90, Tryz.ntmps90
      go_wp2_with fail
      go_ret
      exact ⟨rfl, rfl⟩
  · rw [decide_eq_false h, Bool.false_and] at hr
    subst hr
    have hI : ¬ (p.size : Int) ≤ (s.size : Int) := by omega
    go_enter Tryz.func90, Tryz.ntmps90
    go_wp2_with fail
    go_ret
    exact ⟨rfl, rfl⟩
theorem hasp_c (s p : ByteArray) (w : World) :
    Calls Tryz.prog 66 #[.string s, .string p] w fun e w' => e = .returned (.bool (begB s p)) ∧ w' = w := by
  have H := Lib.hid (hasp18_c s p w)
  generalize begB s p = r at H ⊢
  go_enter Tryz.func66, Tryz.ntmps66
  go_wp2_with fail
  refine H.out.mono ?_; rintro e u ⟨rfl, rfl⟩
  go_wp2_with fail
  go_ret
  exact ⟨rfl, rfl⟩
theorem cut18_yes (s p : ByteArray) (h : begB s p = true) (w : World) :
    Calls Tryz.prog 56 #[.string s, .string p] w fun e w' => e = .returned (.tuple #[.string (s.extract p.size s.size), .bool true]) ∧ w' = w := by
  have hle : p.size ≤ s.size := by unfold begB at h; rw [Bool.and_eq_true, decide_eq_true_iff] at h; exact h.1
  have hI : (p.size : Int) ≤ (s.size : Int) := by omega
  have H := Lib.hid (hasp18_c s p w)
  rw [h] at H
  have C : Calls Tryz.prog 78 #[.string s, .string p] w fun e w' => e = .returned (.tuple #[.string (s.extract p.size s.size), .bool true]) ∧ w' = w := by
    go_enter Tryz.func78, Tryz.ntmps78
    go_wp2_with fail
    refine H.out.mono ?_; rintro e u ⟨rfl, rfl⟩
    go_wp2_with fail
    go_ret2
    exact ⟨rfl, rfl⟩
  have HC := Lib.hid C
  clear C H
  go_enter Tryz.func56, Tryz.ntmps56
  go_wp2_with fail
  refine HC.out.mono ?_; rintro e u ⟨rfl, rfl⟩
  go_wp2_with fail
  go_ret2
  exact ⟨rfl, rfl⟩
theorem cut18_no (s p : ByteArray) (h : begB s p = false) (w : World) :
    Calls Tryz.prog 56 #[.string s, .string p] w fun e w' => e = .returned (.tuple #[.string s, .bool false]) ∧ w' = w := by
  have H := Lib.hid (hasp18_c s p w)
  rw [h] at H
  have C : Calls Tryz.prog 78 #[.string s, .string p] w fun e w' => e = .returned (.tuple #[.string s, .bool false]) ∧ w' = w := by
    go_enter Tryz.func78, Tryz.ntmps78
    go_wp2_with fail
    refine H.out.mono ?_; rintro e u ⟨rfl, rfl⟩
    go_wp2_with fail
    go_ret2
    exact ⟨rfl, rfl⟩
  have HC := Lib.hid C
  clear C H
  go_enter Tryz.func56, Tryz.ntmps56
  go_wp2_with fail
  refine HC.out.mono ?_; rintro e u ⟨rfl, rfl⟩
  go_wp2_with fail
  go_ret2
  exact ⟨rfl, rfl⟩
theorem is18_c (name out : ByteArray) (hn : name.size ≤ 1000) (ho : out.size ≤ 1000) (w : World) :
    Calls Tryz.prog 25 #[.string name, .string out] w fun e w' => e = .returned (.bool (isB name.data.toList out.data.toList)) ∧ Gr w w' := by
  have hoI : (out.size : Int) + 2 ≤ 9223372036854775807 := by omega
  obtain ⟨p, hp⟩ : ∃ p, out ++ (⟨#[46, 114]⟩ : ByteArray) = p := ⟨_, rfl⟩
  cases hq : begB name (out ++ (⟨#[46, 114]⟩ : ByteArray))
  · rw [is_nopre hq]
    rw [hp] at hq
    have H := Lib.hid (cut18_no name p hq w)
    clear hq
    go_enter Tryz.func25, Tryz.ntmps25
    go_wp2_with fail
    refine H.out.mono ?_; rintro e u ⟨rfl, rfl⟩
    go_wp2_with fail
    go_ret
    exact ⟨rfl, Gr.refl _⟩
  · have hz : (out ++ (⟨#[46, 114]⟩ : ByteArray)).size = out.size + 2 := by simp; rfl
    rw [is_pre hq]
    rw [hp] at hq hz
    have H := Lib.hid (cut18_yes name p hq w)
    rw [hz] at H
    obtain ⟨t, ht, hT⟩ := trim18_c (name.extract (out.size + 2) name.size) (by simp; omega)
    have hd : (name.extract (out.size + 2) name.size).data.toList = name.data.toList.drop (out.size + 2) := by
      rw [ByteArray.data_extract, Array.toList_extract]
      simp
      rw [List.take_of_length_le]
      rw [List.length_drop]
      exact Nat.le_refl _
    rw [hd] at ht
    have he : (name.extract (out.size + 2) name.size).toList.isEmpty = (name.data.toList.drop (out.size + 2)).isEmpty := by rw [Lib.toList_data, hd]
    generalize name.extract (out.size + 2) name.size = r at H hT he
    generalize name.data.toList.drop (out.size + 2) = l at ht he
    have HT := Lib.hid hT
    clear hq hz hT hd
    cases hl : l.isEmpty
    · rw [hl] at he
      cases ha : l.all wayB <;>
      · rw [ha] at ht
        go_enter Tryz.func25, Tryz.ntmps25
        go_wp2_with fail
        refine H.out.mono ?_; rintro e u ⟨rfl, rfl⟩
        go_wp2_with fail
        refine (HT.out _).mono ?_; rintro e u ⟨rfl, g⟩
        go_wp2_with fail
        go_ret
        exact ⟨rfl, g⟩
    · rw [hl] at he
      go_enter Tryz.func25, Tryz.ntmps25
      go_wp2_with fail
      refine H.out.mono ?_; rintro e u ⟨rfl, rfl⟩
      go_wp2_with fail
      go_ret
      exact ⟨rfl, Gr.refl _⟩
end Go.Proofs.YtjplkmmhjfpdaaaGreatDoor
/- Plain facts: a disk with a file for each of some lists; files removed again. -/
namespace Go.Proofs.YtjplkmmhjfpdaaaGreatDoor
open Go.RowKit FsPlain CrcPlain OctPlain FramePlain RecPlain RdPlain RnPlain WrPlain
set_option linter.unusedVariables false
set_option linter.unusedSimpArgs false
set_option maxRecDepth 20000
theorem create_calm {s : St} {n : List UInt8} (hs : s.ok) (hc : WrPlain.Calm s) (hg : s.get n = none) (hn : n.length ≤ 24) (hl : s.fs.length < 200) :
    (createR s n).2 = 0 ∧ WrPlain.Calm (createR s n).1 ∧ used (createR s n).1.fs = used s.fs ∧ (createR s n).1.room = s.room ∧ (createR s n).1.get n = some ⟨n, [], 0⟩ ∧ (createR s n).1.ok ∧ (createR s n).1.fs.length = s.fs.length + 1 ∧ (createR s n).1.calls = s.calls + 1 ∧ ∀ n', n' ≠ n → (createR s n).1.get n' = s.get n' := by
  obtain ⟨hc1, hd1⟩ := calm_call hc
  have e1 : createR s n = ({ s.call with fs := insF ⟨n, [], 0⟩ s.fs }, 0) := by
    unfold createR
    rw [if_neg (by rw [hd1]; decide), hg]
    simp only []
    rw [if_neg (by omega)]
  obtain ⟨d, ho, hd, _⟩ := oth_create s n
  obtain rfl : d = 1 := hd (by rw [e1])
  refine ⟨by rw [e1], by rw [e1]; exact hc1, ?_, by rw [e1]; rfl, create_get (by rw [e1]), ok_createR hs hn, ho.len, by rw [e1]; rfl, ho.get⟩
  rw [e1]
  have := used_perm (insF_perm ⟨n, [], 0⟩ s.fs)
  show used (insF _ _) = _
  rw [this]; unfold used; simp
theorem file_made {s : St} {n : List UInt8} {C : ByteArray} (hs : s.ok) (hc : WrPlain.Calm s) (hg : s.get n = none) (hn : n.length ≤ 24) (hl : s.fs.length < 200) (hr : (used s.fs : Int) + (C.size : Nat) ≤ s.room) :
    (createR s n).2 = 0 ∧ (appendR (createR s n).1 n C.data.toList).2 = 0 ∧ WrPlain.Calm (appendR (createR s n).1 n C.data.toList).1 ∧ (appendR (createR s n).1 n C.data.toList).1.ok ∧ used (appendR (createR s n).1 n C.data.toList).1.fs = used s.fs + C.size ∧ (appendR (createR s n).1 n C.data.toList).1.room = s.room ∧ HasD (appendR (createR s n).1 n C.data.toList).1 n C ∧
    (appendR (createR s n).1 n C.data.toList).1.fs.length = s.fs.length + 1 ∧ (appendR (createR s n).1 n C.data.toList).1.calls = s.calls + 2 ∧ ∀ n', n' ≠ n → (appendR (createR s n).1 n C.data.toList).1.get n' = s.get n' := by
  obtain ⟨k1, k2, k3, k4, k5, k6, k7, k8, k9⟩ := create_calm hs hc hg hn hl
  have hz : C.data.toList.length = C.size := Array.length_toList
  obtain ⟨a1, a2, a3, a4⟩ := append_calm k6 k2 k5 (t := C.data.toList) (by rw [k3, k4, hz]; exact hr)
  have ho := oth_append (createR s n).1 n C.data.toList
  refine ⟨k1, a1, a2, ok_append k6 _ _, by rw [a4, k3, hz], by rw [ho.room, k4], ⟨_, append_get k5 a1, by simp⟩, by rw [ho.len, k7], ?_, fun n' h => (ho.get n' h).trans (k9 n' h)⟩
  have : (appendR (createR s n).1 n C.data.toList).1.calls = (createR s n).1.calls + 1 := by
    unfold appendR
    split
    · rfl
    · split
      · rfl
      · split <;> rfl
  rw [this, k8]; omega
theorem name_dataC (c : UInt8) (i : Nat) : (nameN ⟨#[c]⟩ (i : Int)).data.toList = c :: 46 :: digB i := by
  unfold nameN
  rw [if_neg (by omega), Int.toNat_natCast]
  simp [ByteArray.data_append, bs]
def nmX : ByteArray := ⟨#[120]⟩
def nmY : ByteArray := ⟨#[121]⟩
theorem name_x {i : Nat} (h : i < 3000) : rightB (nameN nmX (i : Int)).data.toList = true ∧ (nameN nmX (i : Int)).size ≤ 24 ∧ (nameN nmX (i : Int)).data.toList ≠ nmY.data.toList := by
  obtain ⟨h1, h2⟩ := dig_few i (by omega)
  have hd := name_dataC 120 i
  unfold nmX
  refine ⟨?_, ?_, fun e => ?_⟩
  · rw [hd]
    unfold rightB
    simp only [List.all_cons, List.length_cons, Bool.and_eq_true, decide_eq_true_eq]
    exact ⟨⟨by decide, by decide, dig_right (i + 1) i (by omega)⟩, by omega, by omega⟩
  · have : (nameN ⟨#[120]⟩ (i : Int)).size = (nameN ⟨#[120]⟩ (i : Int)).data.toList.length := Array.length_toList.symm
    rw [this, hd]; simp; omega
  · rw [hd] at e
    simp [nmY] at e
structure Dk (n : Int) (X : List (List ByteArray)) (j : Nat) (s : St) : Prop where
  ok : s.ok
  calm : WrPlain.Calm s
  room : s.room = 1048576
  len : s.fs.length = j
  calls : s.calls = 2 * (j : Int)
  used : used s.fs ≤ 1000 * j
  file : ∀ (i : Nat) (l : List ByteArray), i < j → X[i]? = some l → HasD s (nameN nmX (i : Int)).data.toList (layR n l)
  none : ∀ nm, (∀ i : Nat, i < j → nm ≠ (nameN nmX (i : Int)).data.toList) → s.get nm = none
theorem nameX_inj {i j : Nat} (h : (nameN nmX (i : Int)).data.toList = (nameN nmX (j : Int)).data.toList) : i = j := name_inj h
theorem Dk.step {n : Int} {X : List (List ByteArray)} {j : Nat} {s : St} (h : Dk n X j s) (hj : j < 100) {l : List ByteArray} (hl : X[j]? = some l) (hz : (layR n l).size ≤ 1000) :
    (createR s (nameN nmX (j : Int)).data.toList).2 = 0 ∧ (appendR (createR s (nameN nmX (j : Int)).data.toList).1 (nameN nmX (j : Int)).data.toList (layR n l).data.toList).2 = 0 ∧ Dk n X (j + 1) (appendR (createR s (nameN nmX (j : Int)).data.toList).1 (nameN nmX (j : Int)).data.toList (layR n l).data.toList).1 := by
  obtain ⟨n1, n2, _⟩ := name_x (i := j) (by omega)
  have hg : s.get (nameN nmX (j : Int)).data.toList = Option.none := h.none _ fun i hi e => by have := nameX_inj e; omega
  have hu := h.used
  have hlen := h.len
  obtain ⟨k1, k2, k3, k4, k5, k6, k7, k8, k9, k10⟩ := file_made (C := layR n l) h.ok h.calm hg (by rw [show (nameN nmX (j : Int)).data.toList.length = (nameN nmX (j : Int)).size from Array.length_toList]; exact n2) (by omega) (by rw [h.room]; omega)
  refine ⟨k1, k2, k4, k3, k6.trans h.room, by rw [k8, hlen], by rw [k9, h.calls]; omega, by rw [k5]; omega, fun i q hi hq => ?_, fun nm hne => ?_⟩
  · by_cases e : i = j
    · subst e
      rw [hl] at hq
      cases hq
      exact k7
    · obtain ⟨f, f1, f2⟩ := h.file i q (by omega) hq
      exact ⟨f, by rw [k10 _ (fun e2 => e (nameX_inj e2))]; exact f1, f2⟩
  · rw [k10 nm (hne j (by omega))]
    exact h.none nm fun i hi => hne i (by omega)
def clearR : St → List (List UInt8) → St × Int
  | s, [] => (s, 0)
  | s, n :: r => if (removeR s n).2 = 0 then clearR (removeR s n).1 r else removeR s n
theorem ok_clear : ∀ (l : List (List UInt8)) {s : St}, s.ok → (clearR s l).1.ok
  | [], s, h => h
  | n :: r, s, h => by
    unfold clearR
    split
    · exact ok_clear r (ok_remove h n)
    · exact ok_remove h n
theorem drop_len {s : St} {n : List UInt8} (hs : s.ok) (hg : ∃ f, s.get n = some f) : (s.drop n).fs.length + 1 = s.fs.length := by
  obtain ⟨f, hf⟩ := hg
  have hd := hs.d
  unfold St.get at hf
  unfold St.drop
  simp only []
  generalize s.fs = l at hd hf
  induction l with
  | nil => simp at hf
  | cons x r ih =>
    rw [List.pairwise_cons] at hd
    rw [List.find?_cons] at hf
    rw [List.filter_cons]
    cases hx : x.name == n
    · rw [hx] at hf
      simp only [Bool.not_false, if_true, List.length_cons]
      have := ih hd.2 hf
      omega
    · have hxn : x.name = n := by simpa using hx
      have : r.filter (fun f => !(f.name == n)) = r := by
        rw [List.filter_eq_self]
        intro y hy
        have := hd.1 y hy
        rw [hxn] at this
        simp [Ne.symm this]
      simp only [Bool.not_true, Bool.false_eq_true, if_false, List.length_cons, this]
theorem remove_calm {s : St} {n : List UInt8} (hc : WrPlain.Calm s) (hg : ∃ f, s.get n = some f) : removeR s n = (s.call.drop n, 0) := by
  obtain ⟨_, hd⟩ := calm_call hc
  obtain ⟨f, hf⟩ := hg
  unfold removeR
  rw [if_neg (by rw [hd]; decide), hf]
theorem clear_calm : ∀ (l : List (List UInt8)) {s : St}, s.ok → WrPlain.Calm s → l.Nodup → (∀ n ∈ l, ∃ f, s.get n = some f) → (clearR s l).2 = 0 ∧ WrPlain.Calm (clearR s l).1 ∧ (clearR s l).1.fs.length + l.length = s.fs.length ∧ (∀ n, n ∉ l → (clearR s l).1.get n = s.get n) ∧ (clearR s l).1.calls = s.calls + (l.length : Nat)
  | [], s, _, hc, _, _ => ⟨rfl, hc, rfl, fun _ _ => rfl, by show s.calls = s.calls + ((0 : Nat) : Int); omega⟩
  | n :: r, s, hs, hc, hn, hg => by
    have e := remove_calm hc (hg n (by simp))
    rw [List.nodup_cons] at hn
    have hc1 : WrPlain.Calm (s.call.drop n) := (calm_call hc).1
    have hok1 : (s.call.drop n).ok := ok_drop (ok_call hs) n
    have hl := drop_len (s := s.call) (ok_call hs) (hg n (by simp))
    obtain ⟨h1, h2, h3, h4, h5⟩ := clear_calm r (s := s.call.drop n) hok1 hc1 hn.2 fun n' h' => by
      rw [drop_get_ne _ (fun e2 : n' = n => hn.1 (by rw [← e2]; exact h'))]
      exact hg n' (by simp [h'])
    have hcl : clearR s (n :: r) = clearR (s.call.drop n) r := by
      show (if (removeR s n).2 = 0 then clearR (removeR s n).1 r else removeR s n) = _
      rw [e]; rfl
    rw [hcl]
    refine ⟨h1, h2, ?_, fun n' h' => ?_, ?_⟩
    · have : s.call.fs.length = s.fs.length := rfl
      simp only [List.length_cons]; omega
    · simp only [List.mem_cons, not_or] at h'
      rw [h4 n' h'.2, drop_get_ne _ h'.1]
      rfl
    · rw [h5]
      show s.calls + 1 + _ = _
      simp only [List.length_cons]; omega
end Go.Proofs.YtjplkmmhjfpdaaaGreatDoor
/- Slices of slices of strings, whoever made them. -/
namespace Go.Proofs.YtjplkmmhjfpdaaaGreatDoor
open Go.RowKit
set_option linter.unusedVariables false
set_option linter.unusedSimpArgs false
set_option maxRecDepth 20000
end Go.Proofs.YtjplkmmhjfpdaaaGreatDoor
/- Slices of strings: their last ones, middle ones; append of such a slice to a row of one's own. -/
namespace Go.Proofs.YtjplkmmhjfpdaaaGreatDoor
open Go.RowKit
set_option linter.unusedVariables false
set_option linter.unusedSimpArgs false
set_option maxRecDepth 20000
end Go.Proofs.YtjplkmmhjfpdaaaGreatDoor
/- The document's names of runs, and its texts in order. -/
namespace Go.Proofs.YtjplkmmhjfpdaaaGreatDoor
open Go.RowKit RnPlain
set_option linter.unusedVariables false
set_option linter.unusedSimpArgs false
set_option maxRecDepth 20000
end Go.Proofs.YtjplkmmhjfpdaaaGreatDoor
/- The document's texts in order: insert, Sorted. -/
namespace Go.Proofs.YtjplkmmhjfpdaaaGreatDoor
open Go.RowKit RnPlain
set_option linter.unusedVariables false
set_option linter.unusedSimpArgs false
set_option maxRecDepth 20000
end Go.Proofs.YtjplkmmhjfpdaaaGreatDoor
/- The document's words on lists that rise, and their merge. -/
namespace Go.Proofs.YtjplkmmhjfpdaaaGreatDoor
open Go.RowKit LoPlain RnPlain
set_option linter.unusedVariables false
set_option linter.unusedSimpArgs false
set_option maxRecDepth 20000
theorem own_shape16 {E : TypeId} {base : Nat} {w : World} {v : Value} {n : Nat} {xs : List Value} (h : w.ownsRow base E 1 v n xs) : ∃ a c, v = .slice a n c := by
  rcases h.2 with ⟨rfl, rfl⟩ | ⟨g, cap, cur, rfl, _⟩
  · exact ⟨none, 0, rfl⟩
  · exact ⟨_, cap, rfl⟩
end Go.Proofs.YtjplkmmhjfpdaaaGreatDoor
/- The laws' Few of strings. -/
namespace Go.Proofs.YtjplkmmhjfpdaaaGreatDoor
open Go.RowKit
set_option linter.unusedVariables false
set_option linter.unusedSimpArgs false
set_option maxRecDepth 20000
end Go.Proofs.YtjplkmmhjfpdaaaGreatDoor
/- Contracts of both Sums. -/
namespace Go.Proofs.YtjplkmmhjfpdaaaGreatDoor
open Go.RowKit CrcPlain OctPlain FramePlain RecPlain
set_option linter.unusedVariables false
set_option linter.unusedSimpArgs false
set_option maxRecDepth 20000
theorem blk_at {w : World} {b : Nat} {c : Array Value} {T : TypeId} (h : w.heap[b]? = some (.cells c T (0, 0))) (i : Nat) : w.cell? ⟨b, i, none⟩ = c[i]? := by simp [World.cell?, h]
theorem blk_free {w : World} {b : Nat} {c : Array Value} {T : TypeId} (h : w.heap[b]? = some (.cells c T (0, 0))) (i : Nat) : w.frozen? ⟨b, i, none⟩ = false := by simp [World.frozen?, h]
theorem blk_lt {w : World} {b : Nat} {o : Obj} (h : w.heap[b]? = some o) : b < w.heap.size := (Array.getElem?_eq_some_iff.1 h).1
theorem blk_set {w : World} {b : Nat} {c : Array Value} {T : TypeId} (h : w.heap[b]? = some (.cells c T (0, 0))) (i : Nat) (u : Value) : (w.setCell ⟨b, i, none⟩ u).heap[b]? = some (.cells (c.setIfInBounds i u) T (0, 0)) := by
  obtain ⟨hlt, hb⟩ := Array.getElem?_eq_some_iff.1 h
  simp only [World.setCell, Array.getElem?_modify, if_true, h]
  rfl
theorem blk_gr {w u : World} {b : Nat} {o : Obj} (h : w.heap[b]? = some o) (g : Gr w u) : u.heap[b]? = some o := (g.block b (blk_lt h)).trans h
theorem blk_other {w : World} {b : Nat} {o : Obj} (h : w.heap[b]? = some o) (a : Addr) (u : Value) (hne : a.block ≠ b) : (w.setCell a u).heap[b]? = some o := by
  rw [Below.heap_setCell _ _ _ _ (fun e => hne e.symm)]; exact h
theorem sumN_nil : sumN [] = 0 := by decide
theorem sumN_snoc (l : List ByteArray) (x : ByteArray) : sumN (l ++ [x]) = more (sumN l) x.data.toList := by
  unfold sumN; rw [cat_snoc, more_app]
theorem two_blks (w : World) (o p : Obj) : ((w.alloc o).alloc p).heap[w.heap.size]? = some o ∧ ((w.alloc o).alloc p).heap[w.heap.size + 1]? = some p ∧ Below w.heap.size w ((w.alloc o).alloc p) := by
  refine ⟨(Below.heap_alloc _ _ _ (by simp)).trans (heap_alloc_new w _), ?_, ((Gr.refl w).alloc (Nat.le_refl _) _).alloc (by simp) _⟩
  have := heap_alloc_new (w.alloc o) p
  rwa [World.size_alloc] at this
def SumAt (L : List ByteArray) (n : Nat) (w : World) (i : Value) (wr : World) : Prop :=
  ∃ j : Nat, j ≤ n ∧ i = .int .i64 j ∧ wr.heap[w.heap.size]? = some (.cells #[.int .i64 0, .int .u32 0] 37 (0, 0)) ∧ wr.heap[w.heap.size + 1]? = some (.cells #[.int .i64 n, .int .u32 (sumN (L.take j) : Nat)] 37 (0, 0)) ∧ Below w.heap.size w wr
def SumGot (L : List ByteArray) (w : World) (e : Ending) (w' : World) : Prop := e = .returned (.agg #[.int .i64 (L.length : Nat), .int .u32 (sumN L : Nat)]) ∧ Gr w w'
theorem sum_start (L : List ByteArray) (n : Nat) (w : World) : SumAt L n w (.int .i64 0) ((w.alloc (.cells #[.int .i64 0, .int .u32 0] 37)).alloc (.cells #[.int .i64 n, .int .u32 0] 37)) := by
  obtain ⟨h1, h2, h3⟩ := two_blks w (.cells #[.int .i64 0, .int .u32 0] 37) (.cells #[.int .i64 n, .int .u32 0] 37)
  refine ⟨0, Nat.zero_le _, rfl, h1, ?_, h3⟩
  rw [List.take_zero, sumN_nil]; exact h2
theorem sum_next {L : List ByteArray} {n j : Nat} {w wr u : World} (hj : j < n) (r0 : wr.heap[w.heap.size]? = some (.cells #[.int .i64 0, .int .u32 0] 37 (0, 0)))
    (r1 : wr.heap[w.heap.size + 1]? = some (.cells #[.int .i64 n, .int .u32 (sumN (L.take j) : Nat)] 37 (0, 0))) (hb : Below w.heap.size w wr) (g : Gr wr u) (m : Nat) (hm : m = sumN (L.take (j + 1))) :
    SumAt L n w (.int .i64 ((j : Int) + 1)) (u.setCell ⟨w.heap.size + 1, 1, none⟩ (.int .u32 (m : Nat))) := by
  subst hm
  refine ⟨j + 1, hj, rfl, blk_other (blk_gr r0 g) _ _ (by simp), by simpa using blk_set (blk_gr r1 g) 1 (.int .u32 (sumN (L.take (j + 1)) : Nat)), ?_⟩
  exact ((Gr.of hb).trans g).setCell (p := ⟨w.heap.size + 1, 1, none⟩) (by simp) _
set_option maxRecDepth 20000 in
set_option maxHeartbeats 2000000 in
theorem rsum_c {w : World} {v : Value} {L : List ByteArray} (h : Lies w v L) (hl : L.length ≤ 1000000) (hz : ∀ s ∈ L, s.size ≤ 1000) :
    Calls Tryz.prog 18 #[v] w (SumGot L w) := by
  obtain ⟨a, c, rfl, hc, h⟩ := h
  obtain ⟨n, hn⟩ : ∃ n, L.length = n := ⟨_, rfl⟩
  have HN := Lib.hid hn
  have H0 : 1 ≤ n → ∃ b off, a = some ⟨b, off, none⟩ ∧ SRow w b off L := fun h1 => h.elim (fun h0 => by rw [h0] at hn; simp at hn; omega) id
  have H := Lib.hid H0
  have HZ := Lib.hid hz
  have hst := sum_start L n w
  rw [hn] at hl ⊢
  clear h hc hn H0 hz
  go_enter Tryz.func18, Tryz.ntmps18
  go_wp2_with fail
  go_loopw [4] (fun i wr => SumAt L n w i wr) (fun i _ => n - (intOf i).toNat)
  case atStart => exact hst
  case round =>
    clear hst
    obtain ⟨j, hj, rfl, r0, r1, hb⟩ := hrel
    have hln := HN.out
    by_cases hlt : j < n
    · obtain ⟨x, hx, hstep, hmem⟩ := take_at (l := L) (j := j) (by omega)
      obtain ⟨b, off, rfl, hr⟩ := H.out (by omega)
      have hcx : wr.cell? ⟨b, off + j, none⟩ = some (.string x) := by rw [hb.cell hr.1]; exact hr.2 j x hx
      have M := fun w => rmore_c (sumN (L.take j)) (sumN_lt _) x (HZ.out x hmem) w
      have hs := sumN_snoc (L.take j) x
      rw [← hstep] at hs
      have HS := Lib.hid hs.symm
      have c1 : wr.cell? ⟨w.heap.size + 1, 1, none⟩ = some (.int .u32 (sumN (L.take j) : Nat)) := by rw [blk_at r1]; rfl
      have hk : ∀ u, Gr wr u → u.cell? ⟨w.heap.size + 1, 1, none⟩ = some (.int .u32 (sumN (L.take j) : Nat)) ∧ u.frozen? ⟨w.heap.size + 1, 1, none⟩ = false :=
        fun u g => ⟨by rw [blk_at (blk_gr r1 g)]; rfl, blk_free (blk_gr r1 g) 1⟩
      have HK := Lib.hid hk
      have R0 := Lib.hid r0
      have R1 := Lib.hid r1
      have hbs0 : ∀ u, Gr wr u → ∀ m : Nat, m = sumN (L.take (j + 1)) → SumAt L n w (.int .i64 ((j : Int) + 1)) (u.setCell ⟨w.heap.size + 1, 1, none⟩ (.int .u32 (m : Nat))) := fun u g m hm => sum_next hlt r0 r1 hb g m hm
      have hbs := Lib.hid hbs0
      obtain ⟨m, hm⟩ : ∃ m, m = more (sumN (L.take j)) x.data.toList := ⟨_, rfl⟩
      rw [← hm] at M HS
      have HM := Lib.hid hm
      have MM := Lib.hid (fun w => (M w).mono fun e w' h => (show e = .returned (.int .u32 (m : Nat)) ∧ w' = w from ⟨h.1, h.2.symm⟩))
      have hl2 : (n : Int) ≤ 1000000 := by omega
      clear hm hs hbs0 hstep hmem hx hk r0 r1 hr H HZ M hl
      go_wp2_with fail
      obtain ⟨d1, f1⟩ := HK.out wr (Gr.refl _)
      refine wp_region_still_tail 8 (by kernel_rfl) (by kernel_rfl) ?_
      simp only [List.take_succ_cons, List.take_zero, List.drop_succ_cons, List.drop_zero]
      still_step
      still_step
      still_step
      still_step
      still_step
      still_step
      still_call (MM.out wr.drew)
      still_step
      refine wpStill_nil ?_
      change wpList _ _ _ _ _ wr.drew
      have f2 : wr.drew.frozen? ⟨w.heap.size + 1, 1, none⟩ = false := f1
      have d2 : wr.drew.cell? ⟨w.heap.size + 1, 1, none⟩ = some (.int .u32 (sumN (L.take j) : Nat)) := d1
      go_wp2_with fail
      refine ⟨hbs.out wr.drew (Gr.refl wr).drew m HS.out, ?_⟩
      simp [intOf]; omega
    · obtain rfl : j = n := by omega
      have hte : L.take j = L := List.take_of_length_le (by omega)
      rw [hte] at r1
      obtain ⟨m, hm⟩ : ∃ m, m = sumN L := ⟨_, rfl⟩
      rw [← hm] at r1
      have hw : Two w w.heap.size (.int .i64 0) (.int .u32 0) wr := ⟨blk_lt r0, by rw [blk_at r0]; rfl, by rw [blk_at r0]; rfl, blk_free r0 0, blk_free r0 1⟩
      obtain ⟨W, hW, d0, d1, gW⟩ := two_set hw (.int .i64 (j : Nat)) (.int .u32 (m : Nat)) (Gr.of hb) (Nat.le_refl _)
      have e0 : wr.cell? ⟨w.heap.size + 1, 0, none⟩ = some (.int .i64 (j : Nat)) := by rw [blk_at r1]; rfl
      have e1 : wr.cell? ⟨w.heap.size + 1, 1, none⟩ = some (.int .u32 (m : Nat)) := by rw [blk_at r1]; rfl
      obtain ⟨hlt2, c0, c1, f0, f1⟩ := hw
      have HW := Lib.hid hW
      have HM := Lib.hid hm
      clear hW r0 r1 hm hte H HZ
      go_wp2_with fail
      rw [← HW.out]
      exact bodyPost_ret (v := .agg #[.int .i64 (j : Nat), .int .u32 (m : Nat)]) (by simp [results, Tryz.results18, go_sem, d0, d1]) rfl ⟨by rw [hln, HM.out], gW⟩
end Go.Proofs.YtjplkmmhjfpdaaaGreatDoor
/- A range over a function that hands out what lies in new memory: the loop's body is told what holds of it then (Pr). Beside the library's law: there a body knows of a value no more than its type. -/
namespace Go.Proofs.YtjplkmmhjfpdaaaGreatDoor
open Go.RowKit
set_option linter.unusedVariables false
set_option linter.unusedSimpArgs false
set_option maxRecDepth 20000
def SeqTold {α : Type} (n : Nat) (P : Program) (g : Nat) (lb : Array Value) (encs : α → Array Value) (Pr : List α → α → World → Prop) (Kp : World → World → Prop) (S Sp : List α → Prop) (w : World) : Prop :=
  ∀ (l : Nat) (J Jx : List α → World → Prop) (W : World), Below w.heap.size w W → (∀ s A B, J s A → Gr A B → J s B) →
    (∀ pre x W1, J pre W1 → Pr pre x W1 → YieldAt Fence.wide (n - 1) P l (encs x) W1 fun e W' =>
      (e = .returned (.bool true) ∧ J (pre ++ [x]) W' ∧ Kp W1 W') ∨ (e = .returned (.bool false) ∧ Jx (pre ++ [x]) W')) →
    J [] W →
    CallsIn Fence.wide n P g (#[.func (.yield l) #[] #[]] ++ lb) W fun e W' => (∃ v, e = .returned v) ∧ ((∃ xs, S xs ∧ J xs W') ∨ (∃ pre, Sp pre ∧ Jx pre W'))
theorem gr_grown {A B : World} (h : Gr A B) : A.grownBy B none := ⟨h.1, h.2, h.3, h.size, fun k hk _ => h.block k hk⟩
def LoopAt (l D : Nat) (r : Loop) (W : World) : Prop := W.heap[l]? = some (.loop r) ∧ W.heap[D]? = some (.deferred (some []))
theorem LoopAt.turn {l D : Nat} {r : Loop} {W : World} (h : LoopAt l D r W) (hne : l ≠ D) (r' : Loop) : LoopAt l D r' (W.putObj l (.loop r')) :=
  ⟨World.putObj_heap_same (Array.getElem?_eq_some_iff.1 h.1).1, (World.putObj_heap_other (Ne.symm hne)).trans h.2⟩
theorem LoopAt.kept {C l D : Nat} {r : Loop} {A B : World} (h : LoopAt l D r A) (hl : C ≤ l) (hD : C ≤ D) (k : KeepsFrom C A B) : LoopAt l D r B := ⟨k.same _ _ hl h.1 rfl, k.same _ _ hD h.2 rfl⟩
theorem LoopAt.gr {l D : Nat} {r : Loop} {A B : World} (h : LoopAt l D r A) (g : Gr A B) : LoopAt l D r B :=
  ⟨(g.block l (Array.getElem?_eq_some_iff.1 h.1).1).trans h.1, (g.block D (Array.getElem?_eq_some_iff.1 h.2).1).trans h.2⟩
def JumpOf : Exit → Option (Option Code)
  | .normal => some none
  | .ret => some (some .ret)
  | .exit id => some (some (.exit id))
  | .goto t => some (some (.goto t))
  | .panic _ => none
  | .outgrown => none
section
variable {α : Type} {n : Nat} {P : Program} {gf : Nat} {lb : Array Value} {encs : α → Array Value} {Pr : List α → α → World → Prop} {Kp : World → World → Prop} {S Sp : List α → Prop}
end
end Go.Proofs.YtjplkmmhjfpdaaaGreatDoor
