/- In one text: XsGot, XsName, XsPass, XsForm, MgNext. -/
import Derived.Test.YtjplkmmhjfpdaaaGreatDoorF18
import Derived.Test.YtjplkmmhjfpdaaaGreatDoorF28
import Derived.Test.YtjplkmmhjfpdaaaGreatDoorF31
import Derived.Test.YtjplkmmhjfpdaaaGreatDoorF15
import Derived.Test.YtjplkmmhjfpdaaaGreatDoorF05
import Derived.Test.YtjplkmmhjfpdaaaGreatDoorF26
import Derived.Test.YtjplkmmhjfpdaaaGreatDoorF09
/- What Sort leaves, as parts. -/
namespace Go.Proofs.YtjplkmmhjfpdaaaGreatDoor
open Go.RowKit FsPlain CrcPlain OctPlain FramePlain RecPlain RdPlain RnPlain WrPlain XsPlain
set_option linter.unusedVariables false
set_option maxRecDepth 20000
namespace XsPlain
structure Names18 (s : St) (inn out : ByteArray) : Prop where
  ri : rightB inn.data.toList = true ∧ inn.size ≤ 24
  ro : rightB out.data.toList = true ∧ out.size ≤ 8
  ne : inn ≠ out
  nw : isB inn.data.toList out.data.toList = false
  free : ∀ n, isB n out.data.toList = true → s.get n = Option.none
end XsPlain
def SortGot (D P : Nat) (s : St) (b : Bu) (C inn out : ByteArray) (size : Int) (u : Bool) (M : List Asn) (w : World) (B : Nat → Prop) (e : Ending) (w' : World) : Prop :=
  ∃ s' b' k c er, e = .returned (.tuple #[.agg #[.int .i64 k, .int .u32 c], .int .i64 er]) ∧ SortR s b C inn out size u s' b' k c er ∧ ∃ B', stars ([DiskA D s', BuA P b'] ++ M) w' B' ∧ Nx B w B' w'
theorem DM.sort {D P : Nat} {s : St} {b : Bu} {C inn out : ByteArray} {size : Int} {u : Bool} {M : List Asn} {w wr : World} {f : FuncId} {args : Array Value} (h : DM D P s b M w wr) (hT : Tab w) (k : ∀ B, TabB wr B → stars ([DiskA D s, BuA P b] ++ M) wr B → Calls Tryz.prog f args wr (SortGot D P s b C inn out size u M wr B)) :
    Calls Tryz.prog f args wr fun e w' => ∃ s' b' k c er, e = .returned (.tuple #[.agg #[.int .i64 k, .int .u32 c], .int .i64 er]) ∧ SortR s b C inn out size u s' b' k c er ∧ DM D P s' b' M w w' := by
  obtain ⟨B, hs, n⟩ := h
  refine (k B ((tabB_none hT).nx n) hs).mono ?_
  rintro e w' ⟨s', b', k1, c, er, he, hm, B', h', n'⟩
  exact ⟨s', b', k1, c, er, he, hm, B', h', n.trans n'⟩
theorem DM.listN {D P : Nat} {s : St} {b : Bu} {M : List Asn} {w wr : World} (hM : Frs M) (h : DM D P s b M w wr) (hu : s.down = false) (ha : s.ahead = -1) (hc : s.calls ≤ 1000000000000) :
    Calls Tryz.prog 17 #[.pointer (some ⟨D, 0, none⟩)] wr fun e w' => ∃ x, e = .returned (.tuple #[x, .int .i64 0]) ∧ w'.ownsRow wr.heap.size 9 1 x s.fs.length (strs (listN s)) ∧ DM D P s.call b M w w' := by
  obtain ⟨B, hs, n⟩ := h
  obtain ⟨B1, B2, h1, h2, ap, eq⟩ := hs
  refine (list_c D s B1 wr h1 hc).mono ?_
  rintro e v' ⟨⟨B1', hd, ho, hn⟩, hres⟩
  have hdn : s.call.down = false := ((quiet_call s).calm hu ha).1
  obtain ⟨B3, k3, n3⟩ : ∃ B', stars ([DiskA D s.call, BuA P b] ++ M) v' B' ∧ Nx B wr B' v' :=
    star_of (fr_stars (L := BuA P b :: M) ⟨fr_bu _ _, hM⟩) h2 ap eq (show DiskA D s.call v' B1' from hd) ⟨ho, hn⟩
  rcases hres with ⟨hd1, _⟩ | ⟨_, x, rfl, hown⟩
  · rw [hdn] at hd1; cases hd1
  · exact ⟨x, rfl, by rw [listN_length] at hown; exact hown, B3, k3, n.trans n3⟩
end Go.Proofs.YtjplkmmhjfpdaaaGreatDoor
/- Plain facts: names of files on the way, by round and place. -/
namespace Go.Proofs.YtjplkmmhjfpdaaaGreatDoor
open Go.RowKit FsPlain CrcPlain OctPlain FramePlain RecPlain RdPlain RnPlain WrPlain XsPlain
set_option linter.unusedVariables false
set_option linter.unusedSimpArgs false
set_option maxRecDepth 20000
namespace XsPlain
theorem dig_way : ∀ f n : Nat, n < f → (digB n).all (fun c => decide (48 ≤ c.toNat) && decide (c.toNat ≤ 57)) = true := by
  intro f
  induction f with
  | zero => intro n h; omega
  | succ f ih =>
    intro n h
    have d : ∀ k : Nat, k < 10 → (decide (48 ≤ (UInt8.ofNat (48 + k)).toNat) && decide ((UInt8.ofNat (48 + k)).toNat ≤ 57)) = true := by
      intro k hk
      have : (UInt8.ofNat (48 + k)).toNat = 48 + k := by simp; omega
      rw [this]
      simp
      omega
    by_cases h10 : n < 10
    · rw [digB_small h10, List.all_cons, List.all_nil, d n h10]; rfl
    · rw [digB_big h10, List.all_append, ih (n / 10) (by omega), List.all_cons, List.all_nil, d (n % 10) (by omega)]; rfl
theorem dig_wayB (n : Nat) : (digB n).all wayB = true := by
  have h := dig_way (n + 1) n (by omega)
  rw [List.all_eq_true] at h ⊢
  intro c hc
  unfold wayB
  rw [h c hc, Bool.or_true]
theorem dig_len : ∀ k n : Nat, 1 ≤ k → n < 10 ^ k → (digB n).length ≤ k := by
  intro k
  induction k with
  | zero => intro n h; omega
  | succ k ih =>
    intro n _ h
    by_cases h10 : n < 10
    · rw [digB_small h10]; simp
    · rw [digB_big h10, List.length_append]
      have hk : 1 ≤ k := by
        rcases Nat.eq_zero_or_pos k with e | e
        · subst e; simp at h; omega
        · exact e
      have h2 : n / 10 < 10 ^ k := by rw [Nat.pow_succ] at h; omega
      have := ih (n / 10) hk h2
      simp only [List.length_singleton]
      omega
end XsPlain
end Go.Proofs.YtjplkmmhjfpdaaaGreatDoor
/- The program's Passes, and what it counts by; with what names on the way begin. -/
namespace Go.Proofs.YtjplkmmhjfpdaaaGreatDoor
open Go.RowKit FsPlain RnPlain XsPlain
set_option linter.unusedVariables false
set_option linter.unusedSimpArgs false
set_option maxRecDepth 20000
theorem length18_c (left : Int) (h1 : 0 ≤ left) (h2 : left ≤ 9223372036854775807) (w : World) : Calls Tryz.prog 43 #[.int .i64 left] w fun e w' => e = .returned (.int .i64 (left - 8)) ∧ w' = w := by
  go_enter Tryz.func43, Tryz.ntmps43
  go_wp2_with fail
  go_ret
  exact ⟨rfl, rfl⟩
theorem fan18_c (left : Int) (h1 : 16 ≤ left) (h2 : left ≤ 9223372036854775807) (w : World) : Calls Tryz.prog 45 #[.int .i64 left] w fun e w' => e = .returned (.int .i64 (fanN left)) ∧ w' = w := by
  obtain ⟨f, hf⟩ : ∃ f, fanN left = f := ⟨_, rfl⟩
  rw [hf]
  have hf2 : min 64 ((left - 4) / 4) = f := hf
  have hf3 : min ((left - 4) / 4) 64 = f := by rw [Int.min_comm]; exact hf2
  clear hf
  go_enter Tryz.func45, Tryz.ntmps45
  go_wp2_with fail
  go_ret
  first | exact ⟨rfl, rfl⟩ | exact ⟨by rw [hf2], rfl⟩ | exact ⟨by rw [hf3], rfl⟩
theorem parts18_c (n e : Int) (h0 : 0 ≤ n) (h1 : n ≤ 4398046511104) (h2 : 1 ≤ e) (h3 : e ≤ 4398046511104) (w : World) : Calls Tryz.prog 58 #[.int .i64 n, .int .i64 e] w fun x w' => x = .returned (.int .i64 ((n + e - 1) / e)) ∧ w' = w := by
  have hne : ¬ e = 0 := by omega
  go_enter Tryz.func58, Tryz.ntmps58
  go_wp2_with fail
  go_ret
  exact ⟨rfl, rfl⟩
set_option maxHeartbeats 4000000 in
theorem passes18_c (n left : Int) (hn : I64 n) (hl : I64 left) (w : World) :
    Calls Tryz.prog 27 #[.int .i64 n, .int .i64 left] w fun e w' => e = .returned (.int .i64 (passN n left)) ∧ Gr w w' := by
  obtain ⟨r, hr⟩ : ∃ r, passN n left = r := ⟨_, rfl⟩
  rw [hr]
  unfold passN at hr
  obtain ⟨n1, n2⟩ := hn
  obtain ⟨l1, l2⟩ := hl
  by_cases c1 : n < 0
  · rw [if_pos (.inl c1)] at hr
    subst hr
    go_enter Tryz.func27, Tryz.ntmps27
    go_wp2_with fail
    go_ret
    exact ⟨rfl, Gr.refl _⟩
  · by_cases c2 : 1099511627776 < n
    · rw [if_pos (.inr (.inl c2))] at hr
      subst hr
      go_enter Tryz.func27, Tryz.ntmps27
      go_wp2_with fail
      go_ret
      exact ⟨rfl, Gr.refl _⟩
    · by_cases c3 : left < 16
      · rw [if_pos (.inr (.inr (.inl c3)))] at hr
        subst hr
        go_enter Tryz.func27, Tryz.ntmps27
        go_wp2_with fail
        go_ret
        exact ⟨rfl, Gr.refl _⟩
      · by_cases c4 : 1099511627776 < left
        · rw [if_pos (.inr (.inr (.inr c4)))] at hr
          subst hr
          go_enter Tryz.func27, Tryz.ntmps27
          go_wp2_with fail
          go_ret
          exact ⟨rfl, Gr.refl _⟩
        · rw [if_neg (by omega)] at hr
          obtain ⟨c0, hc0⟩ : ∃ c0 : Nat, (n + left - 9) / (left - 8) = (c0 : Int) := ⟨((n + left - 9) / (left - 8)).toNat, by rw [Int.toNat_of_nonneg (Int.ediv_nonneg (by omega) (by omega))]⟩
          have hc0b : (c0 : Int) ≤ n + left - 9 := by rw [← hc0]; exact Int.ediv_le_self _ (by omega)
          obtain ⟨f, hf⟩ : ∃ f, min 64 ((left - 4) / 4) = f := ⟨_, rfl⟩
          have hf3 : 3 ≤ f ∧ f ≤ 64 := by omega
          obtain ⟨g, hg⟩ : ∃ g : Nat, f = (g : Int) + 2 := ⟨(f - 2).toNat, by omega⟩
          have hr2 : 1 + ((passW g c0 : Nat) : Int) = r := by
            rw [← hr]
            have e1 : fanN left = f := hf
            rw [e1, hc0, Int.toNat_natCast, show f.toNat - 2 = g by omega]
          have LC := Lib.hid (length18_c left (by omega) (by omega))
          have FC := Lib.hid (fan18_c left (by omega) (by omega))
          rw [show fanN left = f from hf] at FC
          have PC := Lib.hid (parts18_c n (left - 8) (by omega) (by omega) (by omega) (by omega))
          rw [show n + (left - 8) - 1 = n + left - 9 by omega, hc0] at PC
          have HR2 := Lib.hid hr2
          have HG := Lib.hid hg
          have HF := Lib.hid hf3
          clear hr hr2 hg hf hf3
          go_enter Tryz.func27, Tryz.ntmps27
          go_wp2_with fail
          refine (LC.out _).mono ?_; rintro e u ⟨rfl, rfl⟩
          go_wp2_with fail
          refine (PC.out _).mono ?_; rintro e u ⟨rfl, rfl⟩
          go_wp2_with fail
          have HC0 := Lib.hid (show c0 ≤ 2199023255552 by omega)
          clear hc0 hc0b
          rename World => wo
          go_loopw [5, 6] (fun v5 v6 wr => ∃ c j : Nat, c ≤ 2199023255552 ∧ v6 = .int .i64 (c : Int) ∧ v5 = .int .i64 (j : Int) ∧ j + passW g c = 1 + passW g c0 ∧ wr = wo) (fun _ v6 _ => (intOf v6).toNat)
          case atStart => exact ⟨c0, 1, HC0.out, rfl, rfl, rfl, rfl⟩
          case round =>
            obtain ⟨c, j, hcb, rfl, rfl, hjp, rfl⟩ := hrel
            have hpl := pass_le _ g c0 (Nat.le_refl _)
            have hjb : (j : Int) ≤ 2199023255553 := by have := HC0.out; omega
            have hcb2 : (c : Int) ≤ 2199023255552 := by omega
            have HJP := Lib.hid hjp
            clear hpl hjp hcb
            by_cases hc : c ≤ 1
            · have hcI : ¬ (1 : Int) < (c : Int) := by omega
              have er : (j : Int) = r := by
                have h1 := HJP.out
                rw [pass_one hc] at h1
                rw [← HR2.out]; omega
              clear hc
              go_wp2_with fail
              go_ret
              exact ⟨rfl, Gr.refl _⟩
            · have hcI : (1 : Int) < (c : Int) := by omega
              have hn : ((c : Int) + f - 1) / f = (((c + g + 1) / (g + 2) : Nat) : Int) := by
                rw [HG.out, Int.natCast_ediv]
                congr 1
                push_cast
                omega
              have hless := pass_less (g := g) hc
              have hmore := pass_more (g := g) hc
              have HLM := Lib.hid (show (c + g + 1) / (g + 2) < c ∧ passW g c = 1 + passW g ((c + g + 1) / (g + 2)) from ⟨hless, hmore⟩)
              have PC2 := Lib.hid (parts18_c (c : Int) f (by omega) (by omega) (by have := HF.out; omega) (by have := HF.out; omega))
              rw [hn] at PC2
              clear hless hmore hc hn
              go_wp2_with fail
              refine (FC.out _).mono ?_; rintro e u ⟨rfl, rfl⟩
              go_wp2_with fail
              refine (PC2.out _).mono ?_; rintro e u ⟨rfl, rfl⟩
              go_wp2_with fail
              refine ⟨⟨(c + g + 1) / (g + 2), j + 1, by have := HLM.out.1; omega, rfl, rfl, by have h1 := HLM.out.2; have h2 := HJP.out; omega, (by first | rfl | trivial)⟩, ?_⟩
              show (((c + g + 1) / (g + 2) : Nat) : Int).toNat < (c : Int).toNat
              rw [Int.toNat_natCast, Int.toNat_natCast]
              exact HLM.out.1
namespace XsPlain
def PreN (out pre : ByteArray) : Prop := ∃ z : List UInt8, (z = [] ∨ z = [48]) ∧ pre.data.toList = out.data.toList ++ [46, 114] ++ z
theorem pre_name {out pre : ByteArray} (h : PreN out pre) (i : Nat) : ∃ t : List UInt8, t ≠ [] ∧ t.all wayB = true ∧ t.length ≤ 2 + (digB i).length ∧ (nameN pre (i : Int)).data.toList = out.data.toList ++ [46, 114] ++ t := by
  obtain ⟨z, hz, e⟩ := h
  refine ⟨z ++ 46 :: digB i, by simp, ?_, ?_, ?_⟩
  · rw [List.all_append, List.all_cons, dig_wayB]
    rcases hz with rfl | rfl <;> rfl
  · rcases hz with rfl | rfl <;> simp <;> omega
  · unfold nameN
    rw [if_neg (by omega), Int.toNat_natCast, ByteArray.data_append, ByteArray.data_append, Array.toList_append, Array.toList_append, bs_data, bs_data, e]
    simp
theorem pre_is {out pre : ByteArray} (h : PreN out pre) (i : Nat) : isB (nameN pre (i : Int)).data.toList out.data.toList = true := by
  obtain ⟨t, h0, h1, _, e⟩ := pre_name h i
  rw [e]
  exact is_way h0 h1
theorem pre_size {out pre : ByteArray} (h : PreN out pre) (hz : out.size ≤ 8) : pre.size ≤ 18 := by
  obtain ⟨z, hz2, e⟩ := h
  have hsz : out.data.toList.length = out.size := rfl
  have : pre.size = pre.data.toList.length := rfl
  rw [this, e]
  simp only [List.length_append, List.length_cons, List.length_nil]
  rcases hz2 with rfl | rfl <;> simp <;> omega
theorem pre_right {out pre : ByteArray} (h : PreN out pre) (ho : rightB out.data.toList = true) (hz : out.size ≤ 8) {i : Nat} (hi : i < 100000) : rightB (nameN pre (i : Int)).data.toList = true ∧ (nameN pre (i : Int)).size ≤ 24 := by
  obtain ⟨z, hz2, e⟩ := h
  have e2 : (nameN pre (i : Int)).data.toList = out.data.toList ++ [46, 114] ++ (z ++ 46 :: digB i) := by
    unfold nameN
    rw [if_neg (by omega), Int.toNat_natCast, ByteArray.data_append, ByteArray.data_append, Array.toList_append, Array.toList_append, bs_data, bs_data, e]
    simp
  have h2 := dig_len 5 i (by decide) (by omega)
  have hsz : out.data.toList.length = out.size := rfl
  have hl : (nameN pre (i : Int)).data.toList.length ≤ 24 ∧ 1 ≤ (nameN pre (i : Int)).data.toList.length := by
    rw [e2]
    simp only [List.length_append, List.length_cons, List.length_nil]
    rcases hz2 with rfl | rfl <;> simp <;> omega
  refine ⟨?_, hl.1⟩
  unfold rightB at ho ⊢
  rw [Bool.and_eq_true] at ho ⊢
  refine ⟨?_, decide_eq_true ⟨hl.2, hl.1⟩⟩
  rw [e2]
  simp only [List.all_append, List.all_cons, List.all_nil, ho.1, dig_right _ i (Nat.lt_succ_self i), Bool.and_true, Bool.true_and]
  rcases hz2 with rfl | rfl <;> decide
theorem names_pre {s : St} {inn out pre : ByteArray} (h : Names18 s inn out) (hp : PreN out pre) : Names16 s inn pre := fun i hi => by
  obtain ⟨h1, h2⟩ := pre_right hp h.ro.1 h.ro.2 (i := i) (by omega)
  refine ⟨h1, h2, fun e => ?_, h.free _ (pre_is hp i)⟩
  have := pre_is hp i
  rw [e, h.nw] at this
  cases this
end XsPlain
theorem begin18_c (inn out : ByteArray) (hi : inn.size ≤ 1000) (ho : out.size ≤ 1000) (w : World) : ∃ pre, PreN out pre ∧ Calls Tryz.prog 41 #[.string inn, .string out] w fun e w' => e = .returned (.string pre) ∧ w' = w := by
  have hoI : (out.size : Int) + 2 ≤ 9223372036854775807 := by omega
  have hz : (out ++ (⟨#[46, 114]⟩ : ByteArray)).size = out.size + 2 := by simp; rfl
  have hd : (out ++ (⟨#[46, 114]⟩ : ByteArray)).data.toList = out.data.toList ++ [46, 114] := by rw [← Lib.toList_data, app_data18]
  obtain ⟨p, hp⟩ : ∃ p, out ++ (⟨#[46, 114]⟩ : ByteArray) = p := ⟨_, rfl⟩
  have H := Lib.hid (hasp_c inn (p ++ (⟨#[46]⟩ : ByteArray)) w)
  rw [hp] at hz hd
  have hpI : (p.size : Int) + 1 ≤ 9223372036854775807 := by omega
  cases hq : begB inn (p ++ (⟨#[46]⟩ : ByteArray))
  · rw [hq] at H
    refine ⟨p, ⟨[], .inl rfl, by rw [hd, List.append_nil]⟩, ?_⟩
    clear hq hd hz
    go_enter Tryz.func41, Tryz.ntmps41
    go_wp2_with fail
    refine H.out.mono ?_; rintro e u ⟨rfl, rfl⟩
    go_wp2_with fail
    go_ret
    exact ⟨rfl, rfl⟩
  · rw [hq] at H
    refine ⟨p ++ (⟨#[48]⟩ : ByteArray), ⟨[48], .inr rfl, by rw [ByteArray.data_append, Array.toList_append, hd]⟩, ?_⟩
    clear hq hd hz
    go_enter Tryz.func41, Tryz.ntmps41
    go_wp2_with fail
    refine H.out.mono ?_; rintro e u ⟨rfl, rfl⟩
    go_wp2_with fail
    go_ret
    exact ⟨rfl, rfl⟩
end Go.Proofs.YtjplkmmhjfpdaaaGreatDoor
/- Form beside whatever else there is; the end of a file that is read. -/
namespace Go.Proofs.YtjplkmmhjfpdaaaGreatDoor
open Go.RowKit FsPlain CrcPlain OctPlain FramePlain RecPlain RdPlain RnPlain WrPlain XsPlain
set_option linter.unusedVariables false
set_option linter.unusedSimpArgs false
set_option maxRecDepth 20000
def FormGotM (D P : Nat) (s : St) (b : Bu) (C inn out : ByteArray) (size m : Int) (u : Bool) (M : List Asn) (w : World) (B : Nat → Prop) (e : Ending) (w' : World) : Prop :=
  ∃ s' b' k er, e = .returned (.tuple #[.int .i64 k, .int .i64 er]) ∧ FormR s b C inn out size m u s' b' k er ∧ ∃ B', stars ([DiskA D s', BuA P b'] ++ M) w' B' ∧ Nx B w B' w'
theorem form18_c {D P : Nat} {s : St} {b : Bu} {C inn out : ByteArray} {size m : Int} (hs : I64 size) (hm : I64 m) (u : Bool) (hC : HasD s inn.data.toList C) (hz : C.size ≤ 5000) (hi : inn.size ≤ 24) (hr : rightB inn.data.toList = true) (ho : out.size ≤ 18) (hn : Names16 s inn out) (hc : s.calls ≤ 1000000) {w : World} {B : Nat → Prop} {M : List Asn} (hM : Frs M) (hT : TabB w B) (h : stars ([DiskA D s, BuA P b] ++ M) w B) :
    Calls Tryz.prog 67 #[.pointer (some ⟨D, 0, none⟩), .pointer (some ⟨P, 0, none⟩), .string inn, .string out, .int .i64 size, .int .i64 m, .bool u] w (FormGotM D P s b C inn out size m u M w B) := by
  obtain ⟨B1, B2, h1, h2, ap, eq⟩ := stars_app.1 h
  have hT1 : TabB w B1 := ⟨hT.tab, fun k => hT.out ((eq _).2 (.inl k))⟩
  refine (form16_c hs hm u hC hz hi hr ho hn hc hT1 h1).mono ?_
  rintro e w' ⟨s', b', k, er, he, hF, B', h', n'⟩
  obtain ⟨B3, k3, n3⟩ := star_of (fr_stars hM) h2 ap eq h' n'
  exact ⟨s', b', k, er, he, hF, B3, stars_app.2 k3, n3⟩
theorem lay_end {size : Int} {l : List ByteArray} (h : layB size l = true) : 17 ≤ (layL size l).length ∧ bs (((layL size l).drop ((layL size l).length - 17)).take 17) = cl (endS l.length (sumN l)) := by
  have hl := endL_length l
  have e : layL size l = ((headS size).data.toList ++ blks (ups l (cnt4 l))) ++ endL l := by unfold layL; rw [List.append_assoc]
  have hlen : (layL size l).length = ((headS size).data.toList ++ blks (ups l (cnt4 l))).length + 17 := by rw [e, List.length_append, hl]
  refine ⟨by omega, ?_⟩
  rw [show (layL size l).length - 17 = ((headS size).data.toList ++ blks (ups l (cnt4 l))).length by omega, e, List.drop_left, List.take_of_length_le (by rw [hl]; exact Nat.le_refl _)]
  unfold endL
  exact bs_toList _
theorem end18_c {size : Int} {l : List ByteArray} (hl : l.length ≤ 100000) (u : World) :
    Calls Tryz.prog 71 #[.string (cl (endS l.length (sumN l)))] u fun e w' => e = .returned (.tuple #[.agg #[.int .i64 (l.length : Nat), .int .u32 (sumN l : Nat)], .bool true]) ∧ Gr u w' := by
  have hp : peB ((l.length : Nat) : Int) = true := by unfold peB; simp; omega
  have hm : sumN l < 4294967296 := sumN_lt l
  have := endback_c (n := ((l.length : Nat) : Int)) hp hm u
  rwa [Int.toNat_natCast] at this
end Go.Proofs.YtjplkmmhjfpdaaaGreatDoor
/- The program's source: the record behind the one ahead of it. -/
namespace Go.Proofs.YtjplkmmhjfpdaaaGreatDoor
open Go.RowKit FsPlain CrcPlain OctPlain FramePlain RecPlain RdPlain RnPlain WrPlain
set_option linter.unusedVariables false
set_option linter.unusedSimpArgs false
set_option maxRecDepth 20000
def srcV (x : Nat) : Value := .agg #[.pointer (some ⟨x, 0, none⟩)]
def ansM (ahead : ByteArray) (R : ByteArray × Bool × Int) : Value := if (R.2.1 && ltT R.1 ahead) = true then .tuple #[.string ⟨#[]⟩, .bool false, .int .i64 13] else ansV R
theorem src_new (x : Nat) (w : World) : ∃ W, W = w.alloc (.cells #[.pointer (some ⟨x, 0, none⟩)] 157) ∧ Gr w W ∧ W.cell? ⟨w.heap.size, 0, none⟩ = some (.pointer (some ⟨x, 0, none⟩)) := by
  refine ⟨_, rfl, Below.alloc (Below.refl _ _) (Nat.le_refl _) _, ?_⟩
  rw [World.cell?_alloc_mark]; rfl
set_option maxHeartbeats 2000000 in
theorem mnext_c {D P : Nat} {rs : List (Nat × Rs)} {s : St} {b : Bu} {i x : Nat} {y : Rs} (ahead : ByteArray) (hi : rs[i]? = some (x, y)) (hok : N3.ok ⟨s, b, y⟩) (hv : N3.inv ⟨s, b, y⟩) (ht : y.told ≤ 50000) (hc : s.calls ≤ 1000000000000) {w : World} {B : Nat → Prop} {M : List Asn} (hM : Frs M) (h : stars (rdsA D P rs ++ ([DiskA D s, BuA P b] ++ M)) w B) :
    Calls Tryz.prog 149 #[srcV x, .string ahead] w (Does w B (stars (rdsA D P (rs.set i (x, (nextN ⟨s, b, y⟩).1.x)) ++ ([DiskA D (nextN ⟨s, b, y⟩).1.s, BuA P (nextN ⟨s, b, y⟩).1.b] ++ M))) (ansM ahead (nextN ⟨s, b, y⟩).2)) := by
  obtain ⟨W, hW, g, k⟩ := src_new x w
  have FR : Frs (rdsA D P rs ++ ([DiskA D s, BuA P b] ++ M)) := frs_app (frs_rds D P rs) (frs_app (L := [DiskA D s, BuA P b]) ⟨fr_disk _ _, fr_bu _ _, trivial⟩ hM)
  have C := Lib.hid (rds_next hi hok hv ht hc hM (stars_gr FR h g))
  obtain ⟨⟨N, r, o, er⟩, hR⟩ : ∃ X, nextN ⟨s, b, y⟩ = X := ⟨_, rfl⟩
  rw [hR] at C ⊢
  unfold ansV at C
  unfold srcV
  have HW := Lib.hid hW
  have G := Lib.hid g
  clear hW h hi hok hv ht hc hM hR g FR
  by_cases hl : (o && ltT r ahead) = true
  · have e : ansM ahead (r, o, er) = .tuple #[.string ⟨#[]⟩, .bool false, .int .i64 13] := if_pos hl
    rw [e]
    rw [Bool.and_eq_true] at hl
    obtain ⟨rfl, hlt⟩ := hl
    have ht : Op.bytesLess r.toList ahead.toList = true := hlt
    clear hlt e
    go_enter Tryz.func149, Tryz.ntmps149
    go_wp2_with fail
    rw [← HW.out]
    refine C.out.mono ?_; rintro e w2 hd
    obtain ⟨rfl, B2, h2, n2⟩ := hd
    have H2 := Lib.hid h2
    have N2 := Lib.hid ((Nx.gr (B := B) G.out).trans n2)
    clear h2 n2 C k
    go_wp2_with fail
    exact bodyPost_ret (v := .tuple #[.string ⟨#[]⟩, .bool false, .int .i64 13]) (by simp [results, Tryz.results149, go_sem, ansV]) rfl ⟨rfl, B2, H2.out, N2.out⟩
  · have e : ansM ahead (r, o, er) = ansV (r, o, er) := if_neg hl
    rw [e]
    unfold ansV
    clear e
    cases o
    · clear hl
      go_enter Tryz.func149, Tryz.ntmps149
      go_wp2_with fail
      rw [← HW.out]
      refine C.out.mono ?_; rintro e w2 hd
      obtain ⟨rfl, B2, h2, n2⟩ := hd
      have H2 := Lib.hid h2
      have N2 := Lib.hid ((Nx.gr (B := B) G.out).trans n2)
      clear h2 n2 C k
      go_wp2_with fail
      exact bodyPost_ret (v := .tuple #[.string r, .bool false, .int .i64 er]) (by simp [results, Tryz.results149, go_sem, ansV]) rfl ⟨rfl, B2, H2.out, N2.out⟩
    · have ht : Op.bytesLess r.toList ahead.toList = false := by
        have : ltT r ahead ≠ true := fun q => hl (by rw [q]; rfl)
        have h2 : ltT r ahead = false := by cases q : ltT r ahead; rfl; exact absurd q this
        exact h2
      clear hl
      go_enter Tryz.func149, Tryz.ntmps149
      go_wp2_with fail
      rw [← HW.out]
      refine C.out.mono ?_; rintro e w2 hd
      obtain ⟨rfl, B2, h2, n2⟩ := hd
      have H2 := Lib.hid h2
      have N2 := Lib.hid ((Nx.gr (B := B) G.out).trans n2)
      clear h2 n2 C k
      go_wp2_with fail
      exact bodyPost_ret (v := .tuple #[.string r, .bool true, .int .i64 er]) (by simp [results, Tryz.results149, go_sem, ansV]) rfl ⟨rfl, B2, H2.out, N2.out⟩
end Go.Proofs.YtjplkmmhjfpdaaaGreatDoor
