/- In one text: XsRef, XsIs, MgDisk, MgArg. -/
import Derived.Test.YtjplkmmhjfpdaaaGreatDoorQ13
import Derived.Test.YtjplkmmhjfpdaaaGreatDoorQ05
import Derived.Test.YtjplkmmhjfpdaaaGreatDoorQ10
import Derived.Shelf.Strings.SlTrimAscii
import Derived.Test.YtjplkmmhjfpdaaaGreatDoorQ12
import Derived.Test.YtjplkmmhjfpdaaaGreatDoorQ00
/- The document's answers of layer 18. -/
namespace Go.Proofs.YtjplkmmhjfpdaaaGreatDoor
open Go.RowKit FsPlain RnPlain XsPlain
set_option linter.unusedVariables false
set_option linter.unusedSimpArgs false
set_option maxRecDepth 20000
theorem ext_data18 (s : ByteArray) (k : Nat) : (s.extract 0 k).toList = s.data.toList.take k := by
  rw [Lib.toList_data]
  simp [ByteArray.data_extract]
theorem app_data18 (out : ByteArray) : (out ++ (⟨#[46, 114]⟩ : ByteArray)).toList = out.data.toList ++ [46, 114] := by
  rw [Lib.toList_data]
  simp [ByteArray.data_append]
theorem slice_to18 (s : ByteArray) (n : Nat) (h : n ≤ s.size) (w : World) :
    (Instr.slice 9 (.string s) none (some (.int .i64 (n : Int))) none).run Tryz.prog w = .ok (.string (s.extract 0 n)) w := by
  rw [run_slice_string_to_if w 9 s .i64 (n : Int) Tryz.underlying9, if_pos ⟨by omega, by omega⟩, Int.toNat_natCast]
theorem is_short {name out : List UInt8} (h : ¬ out.length + 2 < name.length) : isB name out = false := by
  unfold isB
  have : decide (out.length + 2 < name.length) = false := by simpa using h
  rw [this]; rfl
theorem is_other {name out : List UInt8} (h : (name.take (out.length + 2) == out ++ [46, 114]) = false) : isB name out = false := by
  unfold isB
  rw [h, Bool.and_false]; rfl
theorem is_rest {name out : List UInt8} (h1 : out.length + 2 < name.length) (h : (name.take (out.length + 2) == out ++ [46, 114]) = true) : isB name out = (name.drop (out.length + 2)).all wayB := by
  unfold isB
  have : decide (out.length + 2 < name.length) = true := by simpa using h1
  rw [h, this]; rfl
theorem all_drop {l : List UInt8} {k j : Nat} (hkj : k ≤ j) (hj : j < l.length) : ((l.drop k).take (j + 1 - k)).all wayB = (((l.drop k).take (j - k)).all wayB && wayB l[j]) := by
  have h1 : j - k < (l.drop k).length := by rw [List.length_drop]; omega
  rw [show j + 1 - k = (j - k) + 1 by omega, List.take_succ_eq_append_getElem h1, List.all_append]
  simp [List.getElem_drop, show k + (j - k) = j by omega]
theorem all_drop_no {l : List UInt8} {k j : Nat} (hkj : k ≤ j) (hj : j < l.length) (h : wayB l[j] = false) : (l.drop k).all wayB = false := by
  rw [List.all_eq_false]
  refine ⟨l[j], ?_, by simp [h]⟩
  rw [List.mem_iff_getElem]
  exact ⟨j - k, by rw [List.length_drop]; omega, by rw [List.getElem_drop]; congr 1; omega⟩
set_option maxHeartbeats 4000000 in
theorem ris18_c (name out : ByteArray) (hn : name.size ≤ 1000) (ho : out.size ≤ 1000) (w : World) :
    Calls Tryz.prog 29 #[.string name, .string out] w fun e w' => e = .returned (.bool (isB name.data.toList out.data.toList)) ∧ w' = w := by
  obtain ⟨r, hr⟩ : ∃ r, isB name.data.toList out.data.toList = r := ⟨_, rfl⟩
  rw [hr]
  have hsz : name.data.toList.length = name.size := rfl
  have hso : out.data.toList.length = out.size := rfl
  obtain ⟨k, hk⟩ : ∃ k : Nat, out.size + 2 = k := ⟨_, rfl⟩
  by_cases h1 : out.size + 2 < name.size
  · have hb1 : ¬ (name.size : Int) ≤ (out.size : Int) + 2 := by omega
    have SL := fun (w : World) => slice_to18 name k (by omega) w
    have ekI : (out.size : Int) + 2 = (k : Int) := by omega
    cases hc : (name.data.toList.take (out.data.toList.length + 2) == out.data.toList ++ [46, 114])
    · have hrf := is_other hc
      rw [hr] at hrf
      subst hrf
      have hq : ((name.extract 0 k).toList == (out ++ (⟨#[46, 114]⟩ : ByteArray)).toList) = false := by rw [ext_data18, app_data18, ← hk]; exact hc
      have hq2 : ((name.extract 0 k).toList != (out ++ (⟨#[46, 114]⟩ : ByteArray)).toList) = true := by unfold bne; rw [hq]; rfl
      clear hc hr hsz hso hk
      go_enter Tryz.func29, Tryz.ntmps29
      go_wp2_with fail
      go_ret
      exact ⟨rfl, rfl⟩
    · have hra := is_rest (name := name.data.toList) (out := out.data.toList) (by rw [hsz, hso]; exact h1) hc
      rw [hr, hso, hk] at hra
      have hq : ((name.extract 0 k).toList == (out ++ (⟨#[46, 114]⟩ : ByteArray)).toList) = true := by rw [ext_data18, app_data18, ← hk]; exact hc
      have hq2 : ((name.extract 0 k).toList != (out ++ (⟨#[46, 114]⟩ : ByteArray)).toList) = false := by unfold bne; rw [hq]; rfl
      have HRA := Lib.hid hra
      have HSZ := Lib.hid hsz
      have HK := Lib.hid hk
      have hkn : k < name.size := by omega
      clear hc hr hsz hso hk hra
      go_enter Tryz.func29, Tryz.ntmps29
      go_wp2_with fail
      go_loop [6] (fun i => ∃ j : Nat, k ≤ j ∧ j ≤ name.size ∧ i = .int .i64 (j : Int) ∧ ((name.data.toList.drop k).take (j - k)).all wayB = true) (fun i => name.size - (intOf i).toNat)
      case atStart => exact ⟨k, Nat.le_refl _, Nat.le_of_lt hkn, by first | rfl | (rw [ekI]), by rw [Nat.sub_self]; rfl⟩
      case round =>
        obtain ⟨j, hkj, hj, rfl, hall⟩ := hrel
        have HALL := Lib.hid hall
        clear hall
        by_cases hlt : j < name.size
        · have hlt' : j < name.data.toList.length := by rw [HSZ.out]; exact hlt
          have hstep := all_drop hkj hlt'
          have hno := fun h => all_drop_no hkj hlt' h
          have hsame : name.data.toList[j] = name[j] := by simp; rfl
          rw [hsame] at hstep hno
          rw [HALL.out, Bool.true_and] at hstep
          obtain ⟨c, hcc⟩ : ∃ c, name[j] = c := ⟨_, rfl⟩
          rw [hcc] at hstep hno
          have hc256 : c.toNat < 256 := c.toNat_lt
          have HST := Lib.hid hstep
          have HNO := Lib.hid hno
          have hw : wayB c = (decide (c.toNat = 46) || (decide (48 ≤ c.toNat) && decide (c.toNat ≤ 57))) := by
            unfold wayB
            congr 1
            rw [Bool.eq_iff_iff]
            simp only [beq_iff_eq, decide_eq_true_eq]
            exact ⟨fun h => by rw [h]; rfl, fun h => UInt8.toNat_inj.1 h⟩
          have HW := Lib.hid hw
          clear hstep hno hsame hw
          by_cases g1 : (c.toNat : Int) = 46
          · have t1 : ((c.toNat : Int) == 46) = true := by simp [g1]
            have t2 : ((c.toNat : Int) != 46) = false := by simp [g1]
            have hy : wayB c = true := by rw [HW.out]; simp; omega
            have HY := Lib.hid hy
            clear hy
            go_wp2_with fail
            go_round
            case rel => exact ⟨j + 1, by omega, by omega, by go_num, by rw [HST.out]; exact HY.out⟩
            case measure => simp [intOf]; omega
          · have t1 : ((c.toNat : Int) == 46) = false := by simpa using g1
            have t2 : ((c.toNat : Int) != 46) = true := by simpa using g1
            by_cases g2 : (c.toNat : Int) < 48
            · have hy : wayB c = false := by rw [HW.out]; simp; omega
              have hrf : r = false := by rw [HRA.out]; exact HNO.out hy
              subst hrf
              clear hy HW
              go_wp2_with fail
              go_ret
              exact ⟨rfl, rfl⟩
            · by_cases g3 : 57 < (c.toNat : Int)
              · have hy : wayB c = false := by rw [HW.out]; simp; omega
                have hrf : r = false := by rw [HRA.out]; exact HNO.out hy
                subst hrf
                clear hy HW
                go_wp2_with fail
                go_ret
                exact ⟨rfl, rfl⟩
              · have hy : wayB c = true := by rw [HW.out]; simp; omega
                have HY := Lib.hid hy
                clear hy
                go_wp2_with fail
                go_round
                case rel => exact ⟨j + 1, by omega, by omega, by go_num, by rw [HST.out]; exact HY.out⟩
                case measure => simp [intOf]; omega
        · have hje : j = name.size := by omega
          have hr2 : r = true := by
            rw [HRA.out]
            have := HALL.out
            rw [hje, List.take_of_length_le (by rw [List.length_drop, HSZ.out]; exact Nat.le_refl _)] at this
            exact this
          subst hr2
          clear hje
          go_wp2_with fail
          go_ret
          exact ⟨rfl, rfl⟩
  · have hrf := is_short (name := name.data.toList) (out := out.data.toList) (by rw [hsz, hso]; exact h1)
    rw [hr] at hrf
    subst hrf
    have hb1 : (name.size : Int) ≤ (out.size : Int) + 2 := by omega
    clear hr hsz hso h1 hk
    go_enter Tryz.func29, Tryz.ntmps29
    go_wp2_with fail
    go_ret
    exact ⟨rfl, rfl⟩
theorem pass_le : ∀ (m g c : Nat), c ≤ m → passW g c ≤ c
  | 0, g, c, h => by rw [pass_one (by omega)]; omega
  | m + 1, g, c, h => by
    by_cases hc : c ≤ 1
    · rw [pass_one hc]; omega
    · have h1 := pass_less (g := g) hc
      have h2 := pass_le m g ((c + g + 1) / (g + 2)) (by omega)
      rw [pass_more hc]
      omega
set_option maxHeartbeats 4000000 in
theorem rpasses18_c (n left : Int) (hn : I64 n) (hl : I64 left) (w : World) :
    Calls Tryz.prog 28 #[.int .i64 n, .int .i64 left] w fun e w' => e = .returned (.int .i64 (passN n left)) ∧ w' = w := by
  obtain ⟨r, hr⟩ : ∃ r, passN n left = r := ⟨_, rfl⟩
  rw [hr]
  unfold passN at hr
  obtain ⟨n1, n2⟩ := hn
  obtain ⟨l1, l2⟩ := hl
  by_cases c1 : n < 0
  · rw [if_pos (.inl c1)] at hr
    subst hr
    go_enter Tryz.func28, Tryz.ntmps28
    go_wp2_with fail
    go_ret
    exact ⟨rfl, rfl⟩
  · by_cases c2 : 1099511627776 < n
    · rw [if_pos (.inr (.inl c2))] at hr
      subst hr
      go_enter Tryz.func28, Tryz.ntmps28
      go_wp2_with fail
      go_ret
      exact ⟨rfl, rfl⟩
    · by_cases c3 : left < 16
      · rw [if_pos (.inr (.inr (.inl c3)))] at hr
        subst hr
        go_enter Tryz.func28, Tryz.ntmps28
        go_wp2_with fail
        go_ret
        exact ⟨rfl, rfl⟩
      · by_cases c4 : 1099511627776 < left
        · rw [if_pos (.inr (.inr (.inr c4)))] at hr
          subst hr
          go_enter Tryz.func28, Tryz.ntmps28
          go_wp2_with fail
          go_ret
          exact ⟨rfl, rfl⟩
        · rw [if_neg (by omega)] at hr
          obtain ⟨c0, hc0⟩ : ∃ c0 : Nat, (n + left - 9) / (left - 8) = (c0 : Int) := ⟨((n + left - 9) / (left - 8)).toNat, by rw [Int.toNat_of_nonneg (Int.ediv_nonneg (by omega) (by omega))]⟩
          have hc0b : (c0 : Int) ≤ n + left - 9 := by rw [← hc0]; exact Int.ediv_le_self _ (by omega)
          obtain ⟨f, hf⟩ : ∃ f, min 64 ((left - 4) / 4) = f := ⟨_, rfl⟩
          have hf3 : 3 ≤ f ∧ f ≤ 64 := by omega
          obtain ⟨g, hg⟩ : ∃ g : Nat, f = (g : Int) + 2 := ⟨(f - 2).toNat, by omega⟩
          have hr2 : 1 + ((passW g c0 : Nat) : Int) = r := by
            rw [← hr]
            have e1 : fanN left = f := hf
            rw [e1, hc0, Int.toNat_natCast, show f.toNat - 2 = g by omega]
          have HR2 := Lib.hid hr2
          have HG := Lib.hid hg
          obtain ⟨hf31, hf32⟩ := hf3
          clear hr hr2 hg
          go_enter Tryz.func28, Tryz.ntmps28
          go_wp2_with fail
          (try rw [hc0]); (try rw [hf])
          have HC0 := Lib.hid (show c0 ≤ 2199023255552 by omega)
          clear hc0 hf hc0b
          go_loopw [5, 7] (fun v5 v7 wr => ∃ c j : Nat, c ≤ 2199023255552 ∧ v5 = .int .i64 (c : Int) ∧ v7 = .int .i64 (j : Int) ∧ j + passW g c = 1 + passW g c0 ∧ wr = w) (fun v5 _ _ => (intOf v5).toNat)
          case atStart => exact ⟨c0, 1, HC0.out, rfl, rfl, rfl, rfl⟩
          case round =>
            obtain ⟨c, j, hcb, rfl, rfl, hjp, rfl⟩ := hrel
            have hpl := pass_le _ g c0 (Nat.le_refl _)
            have hjb : (j : Int) ≤ 2199023255553 := by have := HC0.out; omega
            have hcb2 : (c : Int) ≤ 2199023255552 := by omega
            have HJP := Lib.hid hjp
            clear hpl hjp hcb
            by_cases hc : c ≤ 1
            · have hcI : ¬ (1 : Int) < (c : Int) := by omega
              have er : (j : Int) = r := by
                have h1 := HJP.out
                rw [pass_one hc] at h1
                rw [← HR2.out]; omega
              clear hc
              go_wp2_with fail
              go_ret
              exact ⟨rfl, rfl⟩
            · have hcI : (1 : Int) < (c : Int) := by omega
              have hn : ((c : Int) + f - 1) / f = (((c + g + 1) / (g + 2) : Nat) : Int) := by
                rw [HG.out, Int.natCast_ediv]
                congr 1
                push_cast
                omega
              have hless := pass_less (g := g) hc
              have hmore := pass_more (g := g) hc
              have HLM := Lib.hid (show (c + g + 1) / (g + 2) < c ∧ passW g c = 1 + passW g ((c + g + 1) / (g + 2)) from ⟨hless, hmore⟩)
              clear hless hmore hc
              go_wp2_with fail
              refine ⟨⟨(c + g + 1) / (g + 2), j + 1, by have := HLM.out.1; omega, by rw [← hn], rfl, by have h1 := HLM.out.2; have h2 := HJP.out; omega, (by first | rfl | trivial)⟩, ?_⟩
              have := HLM.out.1
              rw [hn]
              simp only [intOf]
              omega
end Go.Proofs.YtjplkmmhjfpdaaaGreatDoor
/- strings.Trim: the library's contract, laid at this program's numbers; prefixes; the program's Is, Passes and begin. -/
namespace Go.Proofs.YtjplkmmhjfpdaaaGreatDoor
open Go.RowKit Go.Shelf FsPlain RnPlain XsPlain
set_option linter.unusedVariables false
set_option linter.unusedSimpArgs false
set_option maxRecDepth 20000
def trimL18_ren : Go.Shelf.Ren := ⟨fun | 160 => 57 | 232 => 80 | 231 => 79 | 227 => 81 | 234 => 83 | 233 => 82 | 236 => 85 | 235 => 84 | 228 => 106 | 271 => 109 | 151 => 108 | 197 => 107 | 120 => 130 | 152 => 129 | 260 => 128 | 137 => 163 | 119 => 164 | 224 => 165 | 225 => 166 | 217 => 188 | 266 => 201 | n => n, fun | 9 => 9 | 4 => 4 | 3 => 3 | 5 => 5 | 117 => 119 | 116 => 118 | 0 => 0 | 124 => 122 | 21 => 21 | 105 => 139 | 46 => 124 | 119 => 193 | 139 => 196 | 138 => 195 | n => n, fun | 3 => 0 | 4 => 1 | n => n⟩
theorem trimL18 : Go.Proofs.Lays.n160 Tryz.prog trimL18_ren := {
  mixed := by kernel_rfl
  f119 := Tryz.func164.trans (congrArg some (by kernel_rfl))
  f120 := Tryz.func130.trans (congrArg some (by kernel_rfl))
  f137 := Tryz.func163.trans (congrArg some (by kernel_rfl))
  f151 := Tryz.func108.trans (congrArg some (by kernel_rfl))
  f152 := Tryz.func129.trans (congrArg some (by kernel_rfl))
  f160 := Tryz.func57.trans (congrArg some (by kernel_rfl))
  f197 := Tryz.func107.trans (congrArg some (by kernel_rfl))
  f217 := Tryz.func188.trans (congrArg some (by kernel_rfl))
  f224 := Tryz.func165.trans (congrArg some (by kernel_rfl))
  f225 := Tryz.func166.trans (congrArg some (by kernel_rfl))
  f227 := Tryz.func81.trans (congrArg some (by kernel_rfl))
  f228 := Tryz.func106.trans (congrArg some (by kernel_rfl))
  f231 := Tryz.func79.trans (congrArg some (by kernel_rfl))
  f232 := Tryz.func80.trans (congrArg some (by kernel_rfl))
  f233 := Tryz.func82.trans (congrArg some (by kernel_rfl))
  f234 := Tryz.func83.trans (congrArg some (by kernel_rfl))
  f235 := Tryz.func84.trans (congrArg some (by kernel_rfl))
  f236 := Tryz.func85.trans (congrArg some (by kernel_rfl))
  f260 := Tryz.func128.trans (congrArg some (by kernel_rfl))
  f266 := Tryz.func201.trans (congrArg some (by kernel_rfl))
  f271 := Tryz.func109.trans (congrArg some (by kernel_rfl))
  t0 := Tryz.underlying0
  a0 := Tryz.isAgg0
  z0 := Tryz.sizeOf0
  v0 := Tryz.zeroValue0
  t3 := Tryz.underlying3
  a3 := Tryz.isAgg3
  z3 := Tryz.sizeOf3
  v3 := Tryz.zeroValue3
  t4 := Tryz.underlying4
  a4 := Tryz.isAgg4
  z4 := Tryz.sizeOf4
  v4 := Tryz.zeroValue4
  t5 := Tryz.underlying5
  a5 := Tryz.isAgg5
  z5 := Tryz.sizeOf5
  v5 := Tryz.zeroValue5
  t9 := Tryz.underlying9
  a9 := Tryz.isAgg9
  z9 := Tryz.sizeOf9
  v9 := Tryz.zeroValue9
  t21 := Tryz.underlying21
  a21 := Tryz.isAgg21
  z21 := Tryz.sizeOf21
  v21 := Tryz.zeroValue21
  t46 := Tryz.underlying124
  a46 := Tryz.isAgg124
  z46 := Tryz.sizeOf124
  v46 := Tryz.zeroValue124
  t105 := Tryz.underlying139
  a105 := Tryz.isAgg139
  z105 := Tryz.sizeOf139
  v105 := Tryz.zeroValue139
  t116 := Tryz.underlying118
  a116 := Tryz.isAgg118
  z116 := Tryz.sizeOf118
  t117 := Tryz.underlying119
  a117 := Tryz.isAgg119
  z117 := Tryz.sizeOf119
  v117 := Tryz.zeroValue119
  t119 := Tryz.underlying193
  a119 := Tryz.isAgg193
  z119 := Tryz.sizeOf193
  t124 := Tryz.underlying122
  a124 := Tryz.isAgg122
  z124 := Tryz.sizeOf122
  v124 := Tryz.zeroValue122
  t138 := Tryz.underlying195
  a138 := Tryz.isAgg195
  z138 := Tryz.sizeOf195
  v138 := Tryz.zeroValue195
  t139 := Tryz.underlying196
  a139 := Tryz.isAgg196
  z139 := Tryz.sizeOf196
  v139 := Tryz.zeroValue196
  g3 := by kernel_rfl
  g4 := by kernel_rfl }
theorem drop_nil18 {p : UInt8 → Bool} {l : List UInt8} : l.dropWhile p = [] ↔ l.all p = true := by
  induction l with
  | nil => simp
  | cons a l ih =>
    rw [List.dropWhile_cons]
    cases h : p a
    · simp [h]
    · simp [h, ih]
theorem trim_nil18 {l cs : List UInt8} : Lib.trimS l cs = [] ↔ l.all (cs.contains ·) = true := by
  unfold Lib.trimS Lib.trimLeftS Lib.trimRightS
  rw [drop_nil18]
  constructor
  · intro h
    rw [List.all_reverse] at h
    have hd : l.reverse.dropWhile (cs.contains ·) = [] := by
      cases e : l.reverse.dropWhile (cs.contains ·) with
      | nil => rfl
      | cons a r =>
        have h1 := List.head?_dropWhile_not (cs.contains ·) l.reverse
        rw [e] at h h1
        simp only [List.head?_cons, Bool.not_eq_true'] at h1
        simp only [List.all_cons, Bool.and_eq_true] at h
        rw [h.1] at h1
        cases h1
    have := drop_nil18.1 hd
    rwa [List.all_reverse] at this
  · intro h
    have hd : l.reverse.dropWhile (cs.contains ·) = [] := drop_nil18.2 (by rw [List.all_reverse]; exact h)
    rw [hd]
    rfl
theorem way_cut : ∀ c : UInt8, ([46, 48, 49, 50, 51, 52, 53, 54, 55, 56, 57] : List UInt8).contains c = wayB c := by
  intro c
  have h : ∀ n : Fin 256, ([46, 48, 49, 50, 51, 52, 53, 54, 55, 56, 57] : List UInt8).contains (UInt8.ofNat n.val) = wayB (UInt8.ofNat n.val) := by decide +kernel
  have := h ⟨c.toNat, c.toNat_lt⟩
  simpa using this
theorem info18A : (Tryz.prog.info? 118).map (fun i => (i.zero, i.size)) = some (some (.agg (Array.replicate 256 (.bool false))), 256) := by kernel_rfl
theorem trim18_c (s : ByteArray) (hs : s.size ≤ 1000) : ∃ t : ByteArray, t.toList.isEmpty = s.data.toList.all wayB ∧ ∀ w, Calls Tryz.prog 57 #[.string s, .string ⟨#[46, 48, 49, 50, 51, 52, 53, 54, 55, 56, 57]⟩] w fun e w' => e = .returned (.string t) ∧ Gr w w' := by
  refine ⟨_, ?_, fun w => Any.strings_Trim_laid trimL18 info18A s _ w (by omega) (by decide) (ascii_of_all (by decide))⟩
  rw [Lib.toList_data, Bool.eq_iff_iff, List.isEmpty_iff]
  show Lib.trimS _ _ = [] ↔ _
  rw [trim_nil18]
  have : (fun c => ([46, 48, 49, 50, 51, 52, 53, 54, 55, 56, 57] : List UInt8).contains c) = wayB := funext way_cut
  show s.data.toList.all (fun c => ([46, 48, 49, 50, 51, 52, 53, 54, 55, 56, 57] : List UInt8).contains c) = true ↔ _
  rw [this]
namespace XsPlain
def begB (s p : ByteArray) : Bool := decide (p.size ≤ s.size) && (s.data.toList.take p.size == p.data.toList)
theorem is_pre {name out : ByteArray} (h : begB name (out ++ (⟨#[46, 114]⟩ : ByteArray)) = true) : isB name.data.toList out.data.toList = (!(name.data.toList.drop (out.size + 2)).isEmpty && (name.data.toList.drop (out.size + 2)).all wayB) := by
  unfold begB at h
  have hz : (out ++ (⟨#[46, 114]⟩ : ByteArray)).size = out.size + 2 := by simp; rfl
  rw [hz, ← Lib.toList_data (out ++ (⟨#[46, 114]⟩ : ByteArray)), app_data18, Bool.and_eq_true, decide_eq_true_iff] at h
  have hl : out.data.toList.length = out.size := rfl
  have hn : name.data.toList.length = name.size := rfl
  by_cases hlt : out.size + 2 < name.size
  · rw [is_rest (by rw [hl, hn]; exact hlt) (by rw [hl]; exact h.2), hl]
    have : (name.data.toList.drop (out.size + 2)).isEmpty = false := by
      rw [List.isEmpty_eq_false_iff]
      intro e
      have := congrArg List.length e
      rw [List.length_drop, hn] at this
      simp at this
      omega
    rw [this]; rfl
  · rw [is_short (by rw [hl, hn]; exact hlt), List.drop_of_length_le (by rw [hn]; omega)]
    rfl
theorem is_nopre {name out : ByteArray} (h : begB name (out ++ (⟨#[46, 114]⟩ : ByteArray)) = false) : isB name.data.toList out.data.toList = false := by
  unfold begB at h
  have hz : (out ++ (⟨#[46, 114]⟩ : ByteArray)).size = out.size + 2 := by simp; rfl
  have hl : out.data.toList.length = out.size := rfl
  have hn : name.data.toList.length = name.size := rfl
  rw [hz, ← Lib.toList_data (out ++ (⟨#[46, 114]⟩ : ByteArray)), app_data18] at h
  by_cases hle : out.size + 2 ≤ name.size
  · rw [decide_eq_true hle, Bool.true_and] at h
    exact is_other (by rw [hl]; exact h)
  · exact is_short (by rw [hl, hn]; omega)
end XsPlain
theorem hasp18_c (s p : ByteArray) (w : World) :
    Calls Tryz.prog 90 #[.string s, .string p] w fun e w' => e = .returned (.bool (begB s p)) ∧ w' = w := by
  obtain ⟨r, hr⟩ : ∃ r, begB s p = r := ⟨_, rfl⟩
  rw [hr]
  unfold begB at hr
  by_cases h : p.size ≤ s.size
  · rw [decide_eq_true h, Bool.true_and] at hr
    have SL := fun (w : World) => slice_to18 s p.size h w
    have hq : ((s.extract 0 p.size).toList == p.toList) = r := by rw [ext_data18, Lib.toList_data]; exact hr
    have hI : (p.size : Int) ≤ (s.size : Int) := by omega
    have hd : decide ((p.size : Int) ≤ (s.size : Int)) = true := decide_eq_true hI
    clear hr
    cases r <;>
    · go_enter Tryz.func90, Tryz.ntmps90
      go_wp2_with fail
      go_ret
      exact ⟨rfl, rfl⟩
  · rw [decide_eq_false h, Bool.false_and] at hr
    subst hr
    have hI : ¬ (p.size : Int) ≤ (s.size : Int) := by omega
    go_enter Tryz.func90, Tryz.ntmps90
    go_wp2_with fail
    go_ret
    exact ⟨rfl, rfl⟩
theorem hasp_c (s p : ByteArray) (w : World) :
    Calls Tryz.prog 66 #[.string s, .string p] w fun e w' => e = .returned (.bool (begB s p)) ∧ w' = w := by
  have H := Lib.hid (hasp18_c s p w)
  generalize begB s p = r at H ⊢
  go_enter Tryz.func66, Tryz.ntmps66
  go_wp2_with fail
  refine H.out.mono ?_; rintro e u ⟨rfl, rfl⟩
  go_wp2_with fail
  go_ret
  exact ⟨rfl, rfl⟩
theorem cut18_yes (s p : ByteArray) (h : begB s p = true) (w : World) :
    Calls Tryz.prog 56 #[.string s, .string p] w fun e w' => e = .returned (.tuple #[.string (s.extract p.size s.size), .bool true]) ∧ w' = w := by
  have hle : p.size ≤ s.size := by unfold begB at h; rw [Bool.and_eq_true, decide_eq_true_iff] at h; exact h.1
  have hI : (p.size : Int) ≤ (s.size : Int) := by omega
  have H := Lib.hid (hasp18_c s p w)
  rw [h] at H
  have C : Calls Tryz.prog 78 #[.string s, .string p] w fun e w' => e = .returned (.tuple #[.string (s.extract p.size s.size), .bool true]) ∧ w' = w := by
    go_enter Tryz.func78, Tryz.ntmps78
    go_wp2_with fail
    refine H.out.mono ?_; rintro e u ⟨rfl, rfl⟩
    go_wp2_with fail
    go_ret2
    exact ⟨rfl, rfl⟩
  have HC := Lib.hid C
  clear C H
  go_enter Tryz.func56, Tryz.ntmps56
  go_wp2_with fail
  refine HC.out.mono ?_; rintro e u ⟨rfl, rfl⟩
  go_wp2_with fail
  go_ret2
  exact ⟨rfl, rfl⟩
theorem cut18_no (s p : ByteArray) (h : begB s p = false) (w : World) :
    Calls Tryz.prog 56 #[.string s, .string p] w fun e w' => e = .returned (.tuple #[.string s, .bool false]) ∧ w' = w := by
  have H := Lib.hid (hasp18_c s p w)
  rw [h] at H
  have C : Calls Tryz.prog 78 #[.string s, .string p] w fun e w' => e = .returned (.tuple #[.string s, .bool false]) ∧ w' = w := by
    go_enter Tryz.func78, Tryz.ntmps78
    go_wp2_with fail
    refine H.out.mono ?_; rintro e u ⟨rfl, rfl⟩
    go_wp2_with fail
    go_ret2
    exact ⟨rfl, rfl⟩
  have HC := Lib.hid C
  clear C H
  go_enter Tryz.func56, Tryz.ntmps56
  go_wp2_with fail
  refine HC.out.mono ?_; rintro e u ⟨rfl, rfl⟩
  go_wp2_with fail
  go_ret2
  exact ⟨rfl, rfl⟩
theorem is18_c (name out : ByteArray) (hn : name.size ≤ 1000) (ho : out.size ≤ 1000) (w : World) :
    Calls Tryz.prog 25 #[.string name, .string out] w fun e w' => e = .returned (.bool (isB name.data.toList out.data.toList)) ∧ Gr w w' := by
  have hoI : (out.size : Int) + 2 ≤ 9223372036854775807 := by omega
  obtain ⟨p, hp⟩ : ∃ p, out ++ (⟨#[46, 114]⟩ : ByteArray) = p := ⟨_, rfl⟩
  cases hq : begB name (out ++ (⟨#[46, 114]⟩ : ByteArray))
  · rw [is_nopre hq]
    rw [hp] at hq
    have H := Lib.hid (cut18_no name p hq w)
    clear hq
    go_enter Tryz.func25, Tryz.ntmps25
    go_wp2_with fail
    refine H.out.mono ?_; rintro e u ⟨rfl, rfl⟩
    go_wp2_with fail
    go_ret
    exact ⟨rfl, Gr.refl _⟩
  · have hz : (out ++ (⟨#[46, 114]⟩ : ByteArray)).size = out.size + 2 := by simp; rfl
    rw [is_pre hq]
    rw [hp] at hq hz
    have H := Lib.hid (cut18_yes name p hq w)
    rw [hz] at H
    obtain ⟨t, ht, hT⟩ := trim18_c (name.extract (out.size + 2) name.size) (by simp; omega)
    have hd : (name.extract (out.size + 2) name.size).data.toList = name.data.toList.drop (out.size + 2) := by
      rw [ByteArray.data_extract, Array.toList_extract]
      simp
      rw [List.take_of_length_le]
      rw [List.length_drop]
      exact Nat.le_refl _
    rw [hd] at ht
    have he : (name.extract (out.size + 2) name.size).toList.isEmpty = (name.data.toList.drop (out.size + 2)).isEmpty := by rw [Lib.toList_data, hd]
    generalize name.extract (out.size + 2) name.size = r at H hT he
    generalize name.data.toList.drop (out.size + 2) = l at ht he
    have HT := Lib.hid hT
    clear hq hz hT hd
    cases hl : l.isEmpty
    · rw [hl] at he
      cases ha : l.all wayB <;>
      · rw [ha] at ht
        go_enter Tryz.func25, Tryz.ntmps25
        go_wp2_with fail
        refine H.out.mono ?_; rintro e u ⟨rfl, rfl⟩
        go_wp2_with fail
        refine (HT.out _).mono ?_; rintro e u ⟨rfl, g⟩
        go_wp2_with fail
        go_ret
        exact ⟨rfl, g⟩
    · rw [hl] at he
      go_enter Tryz.func25, Tryz.ntmps25
      go_wp2_with fail
      refine H.out.mono ?_; rintro e u ⟨rfl, rfl⟩
      go_wp2_with fail
      go_ret
      exact ⟨rfl, Gr.refl _⟩
end Go.Proofs.YtjplkmmhjfpdaaaGreatDoor
/- Plain facts: a disk with a file for each of some lists; files removed again. -/
namespace Go.Proofs.YtjplkmmhjfpdaaaGreatDoor
open Go.RowKit FsPlain CrcPlain OctPlain FramePlain RecPlain RdPlain RnPlain WrPlain
set_option linter.unusedVariables false
set_option linter.unusedSimpArgs false
set_option maxRecDepth 20000
theorem create_calm {s : St} {n : List UInt8} (hs : s.ok) (hc : WrPlain.Calm s) (hg : s.get n = none) (hn : n.length ≤ 24) (hl : s.fs.length < 200) :
    (createR s n).2 = 0 ∧ WrPlain.Calm (createR s n).1 ∧ used (createR s n).1.fs = used s.fs ∧ (createR s n).1.room = s.room ∧ (createR s n).1.get n = some ⟨n, [], 0⟩ ∧ (createR s n).1.ok ∧ (createR s n).1.fs.length = s.fs.length + 1 ∧ (createR s n).1.calls = s.calls + 1 ∧ ∀ n', n' ≠ n → (createR s n).1.get n' = s.get n' := by
  obtain ⟨hc1, hd1⟩ := calm_call hc
  have e1 : createR s n = ({ s.call with fs := insF ⟨n, [], 0⟩ s.fs }, 0) := by
    unfold createR
    rw [if_neg (by rw [hd1]; decide), hg]
    simp only []
    rw [if_neg (by omega)]
  obtain ⟨d, ho, hd, _⟩ := oth_create s n
  obtain rfl : d = 1 := hd (by rw [e1])
  refine ⟨by rw [e1], by rw [e1]; exact hc1, ?_, by rw [e1]; rfl, create_get (by rw [e1]), ok_createR hs hn, ho.len, by rw [e1]; rfl, ho.get⟩
  rw [e1]
  have := used_perm (insF_perm ⟨n, [], 0⟩ s.fs)
  show used (insF _ _) = _
  rw [this]; unfold used; simp
theorem file_made {s : St} {n : List UInt8} {C : ByteArray} (hs : s.ok) (hc : WrPlain.Calm s) (hg : s.get n = none) (hn : n.length ≤ 24) (hl : s.fs.length < 200) (hr : (used s.fs : Int) + (C.size : Nat) ≤ s.room) :
    (createR s n).2 = 0 ∧ (appendR (createR s n).1 n C.data.toList).2 = 0 ∧ WrPlain.Calm (appendR (createR s n).1 n C.data.toList).1 ∧ (appendR (createR s n).1 n C.data.toList).1.ok ∧ used (appendR (createR s n).1 n C.data.toList).1.fs = used s.fs + C.size ∧ (appendR (createR s n).1 n C.data.toList).1.room = s.room ∧ HasD (appendR (createR s n).1 n C.data.toList).1 n C ∧
    (appendR (createR s n).1 n C.data.toList).1.fs.length = s.fs.length + 1 ∧ (appendR (createR s n).1 n C.data.toList).1.calls = s.calls + 2 ∧ ∀ n', n' ≠ n → (appendR (createR s n).1 n C.data.toList).1.get n' = s.get n' := by
  obtain ⟨k1, k2, k3, k4, k5, k6, k7, k8, k9⟩ := create_calm hs hc hg hn hl
  have hz : C.data.toList.length = C.size := Array.length_toList
  obtain ⟨a1, a2, a3, a4⟩ := append_calm k6 k2 k5 (t := C.data.toList) (by rw [k3, k4, hz]; exact hr)
  have ho := oth_append (createR s n).1 n C.data.toList
  refine ⟨k1, a1, a2, ok_append k6 _ _, by rw [a4, k3, hz], by rw [ho.room, k4], ⟨_, append_get k5 a1, by simp⟩, by rw [ho.len, k7], ?_, fun n' h => (ho.get n' h).trans (k9 n' h)⟩
  have : (appendR (createR s n).1 n C.data.toList).1.calls = (createR s n).1.calls + 1 := by
    unfold appendR
    split
    · rfl
    · split
      · rfl
      · split <;> rfl
  rw [this, k8]; omega
theorem name_dataC (c : UInt8) (i : Nat) : (nameN ⟨#[c]⟩ (i : Int)).data.toList = c :: 46 :: digB i := by
  unfold nameN
  rw [if_neg (by omega), Int.toNat_natCast]
  simp [ByteArray.data_append, bs]
def nmX : ByteArray := ⟨#[120]⟩
def nmY : ByteArray := ⟨#[121]⟩
theorem name_x {i : Nat} (h : i < 3000) : rightB (nameN nmX (i : Int)).data.toList = true ∧ (nameN nmX (i : Int)).size ≤ 24 ∧ (nameN nmX (i : Int)).data.toList ≠ nmY.data.toList := by
  obtain ⟨h1, h2⟩ := dig_few i (by omega)
  have hd := name_dataC 120 i
  unfold nmX
  refine ⟨?_, ?_, fun e => ?_⟩
  · rw [hd]
    unfold rightB
    simp only [List.all_cons, List.length_cons, Bool.and_eq_true, decide_eq_true_eq]
    exact ⟨⟨by decide, by decide, dig_right (i + 1) i (by omega)⟩, by omega, by omega⟩
  · have : (nameN ⟨#[120]⟩ (i : Int)).size = (nameN ⟨#[120]⟩ (i : Int)).data.toList.length := Array.length_toList.symm
    rw [this, hd]; simp; omega
  · rw [hd] at e
    simp [nmY] at e
structure Dk (n : Int) (X : List (List ByteArray)) (j : Nat) (s : St) : Prop where
  ok : s.ok
  calm : WrPlain.Calm s
  room : s.room = 1048576
  len : s.fs.length = j
  calls : s.calls = 2 * (j : Int)
  used : used s.fs ≤ 1000 * j
  file : ∀ (i : Nat) (l : List ByteArray), i < j → X[i]? = some l → HasD s (nameN nmX (i : Int)).data.toList (layR n l)
  none : ∀ nm, (∀ i : Nat, i < j → nm ≠ (nameN nmX (i : Int)).data.toList) → s.get nm = none
theorem nameX_inj {i j : Nat} (h : (nameN nmX (i : Int)).data.toList = (nameN nmX (j : Int)).data.toList) : i = j := name_inj h
theorem Dk.step {n : Int} {X : List (List ByteArray)} {j : Nat} {s : St} (h : Dk n X j s) (hj : j < 100) {l : List ByteArray} (hl : X[j]? = some l) (hz : (layR n l).size ≤ 1000) :
    (createR s (nameN nmX (j : Int)).data.toList).2 = 0 ∧ (appendR (createR s (nameN nmX (j : Int)).data.toList).1 (nameN nmX (j : Int)).data.toList (layR n l).data.toList).2 = 0 ∧ Dk n X (j + 1) (appendR (createR s (nameN nmX (j : Int)).data.toList).1 (nameN nmX (j : Int)).data.toList (layR n l).data.toList).1 := by
  obtain ⟨n1, n2, _⟩ := name_x (i := j) (by omega)
  have hg : s.get (nameN nmX (j : Int)).data.toList = Option.none := h.none _ fun i hi e => by have := nameX_inj e; omega
  have hu := h.used
  have hlen := h.len
  obtain ⟨k1, k2, k3, k4, k5, k6, k7, k8, k9, k10⟩ := file_made (C := layR n l) h.ok h.calm hg (by rw [show (nameN nmX (j : Int)).data.toList.length = (nameN nmX (j : Int)).size from Array.length_toList]; exact n2) (by omega) (by rw [h.room]; omega)
  refine ⟨k1, k2, k4, k3, k6.trans h.room, by rw [k8, hlen], by rw [k9, h.calls]; omega, by rw [k5]; omega, fun i q hi hq => ?_, fun nm hne => ?_⟩
  · by_cases e : i = j
    · subst e
      rw [hl] at hq
      cases hq
      exact k7
    · obtain ⟨f, f1, f2⟩ := h.file i q (by omega) hq
      exact ⟨f, by rw [k10 _ (fun e2 => e (nameX_inj e2))]; exact f1, f2⟩
  · rw [k10 nm (hne j (by omega))]
    exact h.none nm fun i hi => hne i (by omega)
def clearR : St → List (List UInt8) → St × Int
  | s, [] => (s, 0)
  | s, n :: r => if (removeR s n).2 = 0 then clearR (removeR s n).1 r else removeR s n
theorem ok_clear : ∀ (l : List (List UInt8)) {s : St}, s.ok → (clearR s l).1.ok
  | [], s, h => h
  | n :: r, s, h => by
    unfold clearR
    split
    · exact ok_clear r (ok_remove h n)
    · exact ok_remove h n
theorem drop_len {s : St} {n : List UInt8} (hs : s.ok) (hg : ∃ f, s.get n = some f) : (s.drop n).fs.length + 1 = s.fs.length := by
  obtain ⟨f, hf⟩ := hg
  have hd := hs.d
  unfold St.get at hf
  unfold St.drop
  simp only []
  generalize s.fs = l at hd hf
  induction l with
  | nil => simp at hf
  | cons x r ih =>
    rw [List.pairwise_cons] at hd
    rw [List.find?_cons] at hf
    rw [List.filter_cons]
    cases hx : x.name == n
    · rw [hx] at hf
      simp only [Bool.not_false, if_true, List.length_cons]
      have := ih hd.2 hf
      omega
    · have hxn : x.name = n := by simpa using hx
      have : r.filter (fun f => !(f.name == n)) = r := by
        rw [List.filter_eq_self]
        intro y hy
        have := hd.1 y hy
        rw [hxn] at this
        simp [Ne.symm this]
      simp only [Bool.not_true, Bool.false_eq_true, if_false, List.length_cons, this]
theorem remove_calm {s : St} {n : List UInt8} (hc : WrPlain.Calm s) (hg : ∃ f, s.get n = some f) : removeR s n = (s.call.drop n, 0) := by
  obtain ⟨_, hd⟩ := calm_call hc
  obtain ⟨f, hf⟩ := hg
  unfold removeR
  rw [if_neg (by rw [hd]; decide), hf]
theorem clear_calm : ∀ (l : List (List UInt8)) {s : St}, s.ok → WrPlain.Calm s → l.Nodup → (∀ n ∈ l, ∃ f, s.get n = some f) → (clearR s l).2 = 0 ∧ WrPlain.Calm (clearR s l).1 ∧ (clearR s l).1.fs.length + l.length = s.fs.length ∧ (∀ n, n ∉ l → (clearR s l).1.get n = s.get n) ∧ (clearR s l).1.calls = s.calls + (l.length : Nat)
  | [], s, _, hc, _, _ => ⟨rfl, hc, rfl, fun _ _ => rfl, by show s.calls = s.calls + ((0 : Nat) : Int); omega⟩
  | n :: r, s, hs, hc, hn, hg => by
    have e := remove_calm hc (hg n (by simp))
    rw [List.nodup_cons] at hn
    have hc1 : WrPlain.Calm (s.call.drop n) := (calm_call hc).1
    have hok1 : (s.call.drop n).ok := ok_drop (ok_call hs) n
    have hl := drop_len (s := s.call) (ok_call hs) (hg n (by simp))
    obtain ⟨h1, h2, h3, h4, h5⟩ := clear_calm r (s := s.call.drop n) hok1 hc1 hn.2 fun n' h' => by
      rw [drop_get_ne _ (fun e2 : n' = n => hn.1 (by rw [← e2]; exact h'))]
      exact hg n' (by simp [h'])
    have hcl : clearR s (n :: r) = clearR (s.call.drop n) r := by
      show (if (removeR s n).2 = 0 then clearR (removeR s n).1 r else removeR s n) = _
      rw [e]; rfl
    rw [hcl]
    refine ⟨h1, h2, ?_, fun n' h' => ?_, ?_⟩
    · have : s.call.fs.length = s.fs.length := rfl
      simp only [List.length_cons]; omega
    · simp only [List.mem_cons, not_or] at h'
      rw [h4 n' h'.2, drop_get_ne _ h'.1]
      rfl
    · rw [h5]
      show s.calls + 1 + _ = _
      simp only [List.length_cons]; omega
end Go.Proofs.YtjplkmmhjfpdaaaGreatDoor
/- Slices of slices of strings, whoever made them. -/
namespace Go.Proofs.YtjplkmmhjfpdaaaGreatDoor
open Go.RowKit
set_option linter.unusedVariables false
set_option linter.unusedSimpArgs false
set_option maxRecDepth 20000
end Go.Proofs.YtjplkmmhjfpdaaaGreatDoor
