/- In one text: Itoa, RnName, RnSort. -/
import Derived.Shelf.Strconv.Itoa0
import Derived.Shelf.Strconv.Itoa1
import Derived.Shelf.LaysM
import Derived.Shelf.Strconv.Itoa2
import Derived.Shelf.Strconv.Itoa3
import Derived.Lib.LaidTab
import Derived.LaidSub
import Derived.Stop.LaidErr
import Derived.Test.YtdlomcgkpiejgaaGreatDoorP18
import Derived.Test.YtdlomcgkpiejgaaGreatDoorP22
import Derived.Test.YtdlomcgkpiejgaaGreatDoorP25
import Derived.Test.YtdlomcgkpiejgaaGreatDoorP17
import Derived.Sort.OwnSorted
import Derived.Sort.Walk0
import Derived.Lib.SlicesCompact
/- strconv.Itoa: the library's contract, laid at this program's numbers; the table that it reads; a run's name. -/
namespace Go.Proofs.YtdlomcgkpiejgaaGreatDoor
open Go.RowKit Go.Shelf Go.Sort
set_option linter.unusedVariables false
set_option linter.unusedSimpArgs false
set_option maxRecDepth 20000
def itoaM_ren : Go.Shelf.Ren := ⟨fun | 171 => 44 | 243 => 72 | 246 => 97 | 283 => 120 | 284 => 121 | 285 => 122 | 286 => 123 | 129 => 118 | 317 => 142 | 318 => 143 | 319 => 144 | 320 => 145 | 337 => 155 | 338 => 156 | n => n, fun | 3 => 3 | 9 => 9 | 2 => 2 | 4 => 4 | 171 => 150 | 0 => 0 | 53 => 148 | 37 => 83 | 5 => 5 | 173 => 152 | 212 => 172 | 51 => 46 | 20 => 20 | 213 => 173 | 46 => 116 | 232 => 189 | 233 => 190 | n => n, fun | 17 => 0 | 18 => 1 | 19 => 2 | n => n⟩
theorem itoaM : Go.Proofs.LaysM.n171 Tryz.prog itoaM_ren := {
  mixed := by kernel_rfl
  f129 := Tryz.func118.trans (congrArg some (by kernel_rfl))
  f171 := Tryz.func44.trans (congrArg some (by kernel_rfl))
  f243 := Tryz.func72.trans (congrArg some (by kernel_rfl))
  f246 := Tryz.func97.trans (congrArg some (by kernel_rfl))
  f283 := Tryz.func120.trans (congrArg some (by kernel_rfl))
  f284 := Tryz.func121.trans (congrArg some (by kernel_rfl))
  f285 := Tryz.func122.trans (congrArg some (by kernel_rfl))
  f286 := Tryz.func123.trans (congrArg some (by kernel_rfl))
  f317 := Tryz.func142.trans (congrArg some (by kernel_rfl))
  f318 := Tryz.func143.trans (congrArg some (by kernel_rfl))
  f319 := Tryz.func144.trans (congrArg some (by kernel_rfl))
  f320 := Tryz.func145.trans (congrArg some (by kernel_rfl))
  f337 := Tryz.func155.trans (congrArg some (by kernel_rfl))
  f338 := Tryz.func156.trans (congrArg some (by kernel_rfl))
  t0 := Tryz.underlying0
  a0 := Tryz.isAgg0
  z0 := Tryz.sizeOf0
  v0 := Tryz.zeroValue0
  t2 := Tryz.underlying2
  a2 := Tryz.isAgg2
  z2 := Tryz.sizeOf2
  v2 := Tryz.zeroValue2
  t3 := Tryz.underlying3
  a3 := Tryz.isAgg3
  z3 := Tryz.sizeOf3
  v3 := Tryz.zeroValue3
  t4 := Tryz.underlying4
  a4 := Tryz.isAgg4
  z4 := Tryz.sizeOf4
  v4 := Tryz.zeroValue4
  t5 := Tryz.underlying5
  a5 := Tryz.isAgg5
  z5 := Tryz.sizeOf5
  v5 := Tryz.zeroValue5
  t9 := Tryz.underlying9
  a9 := Tryz.isAgg9
  z9 := Tryz.sizeOf9
  v9 := Tryz.zeroValue9
  t20 := Tryz.underlying20
  a20 := Tryz.isAgg20
  z20 := Tryz.sizeOf20
  v20 := Tryz.zeroValue20
  t37 := Tryz.underlying83
  a37 := Tryz.isAgg83
  z37 := Tryz.sizeOf83
  v37 := Tryz.zeroValue83
  t46 := Tryz.underlying116
  a46 := Tryz.isAgg116
  z46 := Tryz.sizeOf116
  v46 := Tryz.zeroValue116
  t51 := Tryz.underlying46
  a51 := Tryz.isAgg46
  z51 := Tryz.sizeOf46
  v51 := Tryz.zeroValue46
  t53 := Tryz.underlying148
  a53 := Tryz.isAgg148
  z53 := Tryz.sizeOf148
  v53 := Tryz.zeroValue148
  t171 := Tryz.underlying150
  a171 := Tryz.isAgg150
  z171 := Tryz.sizeOf150
  v171 := Tryz.zeroValue150
  t173 := Tryz.underlying152
  a173 := Tryz.isAgg152
  z173 := Tryz.sizeOf152
  v173 := Tryz.zeroValue152
  t212 := Tryz.underlying172
  a212 := Tryz.isAgg172
  z212 := Tryz.sizeOf172
  v212 := Tryz.zeroValue172
  t213 := Tryz.underlying173
  a213 := Tryz.isAgg173
  z213 := Tryz.sizeOf173
  t232 := Tryz.underlying189
  a232 := Tryz.isAgg189
  z232 := Tryz.sizeOf189
  v232 := Tryz.zeroValue189
  t233 := Tryz.underlying190
  a233 := Tryz.isAgg190
  z233 := Tryz.sizeOf190
  v233 := Tryz.zeroValue190
  g17 := by kernel_rfl
  g18 := by kernel_rfl
  g19 := by kernel_rfl
  i0 := by kernel_rfl
  i2 := by kernel_rfl
  i3 := by kernel_rfl
  i4 := by kernel_rfl
  i5 := by kernel_rfl
  i9 := by kernel_rfl
  i20 := by kernel_rfl
  i37 := by kernel_rfl
  i46 := by kernel_rfl
  i51 := by kernel_rfl
  i53 := by kernel_rfl
  i171 := by kernel_rfl
  i173 := by kernel_rfl
  i212 := by kernel_rfl
  i232 := by kernel_rfl
  i233 := by kernel_rfl
  m17 := by kernel_rfl
  m18 := by kernel_rfl
  m19 := by kernel_rfl }
def itoaS_ren : Go.Shelf.Ren := ⟨fun | 171 => 44 | 243 => 72 | 246 => 97 | 283 => 120 | 284 => 121 | 285 => 122 | 286 => 123 | 129 => 118 | 317 => 142 | 318 => 143 | 319 => 144 | 320 => 145 | 337 => 155 | 338 => 156 | n => n, fun | 3 => 3 | 9 => 9 | 2 => 2 | 4 => 4 | 171 => 150 | 0 => 0 | 53 => 148 | 37 => 83 | 5 => 5 | 173 => 152 | 212 => 172 | 51 => 46 | 20 => 20 | 213 => 173 | 46 => 116 | 232 => 189 | 233 => 190 | n => n, fun | 17 => 0 | 18 => 1 | 19 => 2 | n => n⟩
theorem itoaS : Go.Proofs.Lays.n171 Tryz.prog itoaS_ren := {
  mixed := by kernel_rfl
  f129 := Tryz.func118.trans (congrArg some (by kernel_rfl))
  f171 := Tryz.func44.trans (congrArg some (by kernel_rfl))
  f243 := Tryz.func72.trans (congrArg some (by kernel_rfl))
  f246 := Tryz.func97.trans (congrArg some (by kernel_rfl))
  f283 := Tryz.func120.trans (congrArg some (by kernel_rfl))
  f284 := Tryz.func121.trans (congrArg some (by kernel_rfl))
  f285 := Tryz.func122.trans (congrArg some (by kernel_rfl))
  f286 := Tryz.func123.trans (congrArg some (by kernel_rfl))
  f317 := Tryz.func142.trans (congrArg some (by kernel_rfl))
  f318 := Tryz.func143.trans (congrArg some (by kernel_rfl))
  f319 := Tryz.func144.trans (congrArg some (by kernel_rfl))
  f320 := Tryz.func145.trans (congrArg some (by kernel_rfl))
  f337 := Tryz.func155.trans (congrArg some (by kernel_rfl))
  f338 := Tryz.func156.trans (congrArg some (by kernel_rfl))
  t0 := Tryz.underlying0
  a0 := Tryz.isAgg0
  z0 := Tryz.sizeOf0
  v0 := Tryz.zeroValue0
  t2 := Tryz.underlying2
  a2 := Tryz.isAgg2
  z2 := Tryz.sizeOf2
  v2 := Tryz.zeroValue2
  t3 := Tryz.underlying3
  a3 := Tryz.isAgg3
  z3 := Tryz.sizeOf3
  v3 := Tryz.zeroValue3
  t4 := Tryz.underlying4
  a4 := Tryz.isAgg4
  z4 := Tryz.sizeOf4
  v4 := Tryz.zeroValue4
  t5 := Tryz.underlying5
  a5 := Tryz.isAgg5
  z5 := Tryz.sizeOf5
  v5 := Tryz.zeroValue5
  t9 := Tryz.underlying9
  a9 := Tryz.isAgg9
  z9 := Tryz.sizeOf9
  v9 := Tryz.zeroValue9
  t20 := Tryz.underlying20
  a20 := Tryz.isAgg20
  z20 := Tryz.sizeOf20
  v20 := Tryz.zeroValue20
  t37 := Tryz.underlying83
  a37 := Tryz.isAgg83
  z37 := Tryz.sizeOf83
  v37 := Tryz.zeroValue83
  t46 := Tryz.underlying116
  a46 := Tryz.isAgg116
  z46 := Tryz.sizeOf116
  v46 := Tryz.zeroValue116
  t51 := Tryz.underlying46
  a51 := Tryz.isAgg46
  z51 := Tryz.sizeOf46
  v51 := Tryz.zeroValue46
  t53 := Tryz.underlying148
  a53 := Tryz.isAgg148
  z53 := Tryz.sizeOf148
  v53 := Tryz.zeroValue148
  t171 := Tryz.underlying150
  a171 := Tryz.isAgg150
  z171 := Tryz.sizeOf150
  v171 := Tryz.zeroValue150
  t173 := Tryz.underlying152
  a173 := Tryz.isAgg152
  z173 := Tryz.sizeOf152
  v173 := Tryz.zeroValue152
  t212 := Tryz.underlying172
  a212 := Tryz.isAgg172
  z212 := Tryz.sizeOf172
  v212 := Tryz.zeroValue172
  t213 := Tryz.underlying173
  a213 := Tryz.isAgg173
  z213 := Tryz.sizeOf173
  t232 := Tryz.underlying189
  a232 := Tryz.isAgg189
  z232 := Tryz.sizeOf189
  v232 := Tryz.zeroValue189
  t233 := Tryz.underlying190
  a233 := Tryz.isAgg190
  z233 := Tryz.sizeOf190
  v233 := Tryz.zeroValue190
  g17 := by kernel_rfl
  g18 := by kernel_rfl
  g19 := by kernel_rfl }

/-- The table of the powers of ten lies where the program lays it. -/
def Tab (w : World) : Prop := ∃ T fr, w.heap[0]? = some (.cells (Lib.pow10Tab.map fun z => Value.int .u64 z).toArray T fr)
theorem tabIs_of {P : Program} {w : World} {name : String} {k : IntKind} {zs : List Int} {g : Nat} (hg : P.globalNamed name = some g) (h : ∃ T fr, w.heap[g]? = some (.cells (zs.map fun z => Value.int k z).toArray T fr)) : Lib.TabIs P w name k zs := by
  obtain ⟨T, fr, h⟩ := h
  unfold Lib.TabIs World.var?
  rw [hg]
  simp only [Option.bind_some, h]
theorem of_tabIs {P : Program} {w : World} {name : String} {k : IntKind} {zs : List Int} {g : Nat} (hg : P.globalNamed name = some g) (h : Lib.TabIs P w name k zs) : ∃ T fr, w.heap[g]? = some (.cells (zs.map fun z => Value.int k z).toArray T fr) := by
  unfold Lib.TabIs World.var? at h
  rw [hg] at h
  simp only [Option.bind_some] at h
  split at h
  · rename_i cs T fr hb
    simp only [Option.some.injEq] at h
    exact ⟨T, fr, by rw [hb, h]⟩
  · cases h
theorem Tab.lt {w : World} (h : Tab w) : 0 < w.heap.size := by
  obtain ⟨T, fr, h⟩ := h
  exact (Array.getElem?_eq_some_iff.1 h).1
theorem Tab.only {w w' : World} {B : Nat → Prop} (h : Tab w) (o : Only B w w') (hB : ¬ B 0) : Tab w' := by
  have hl := h.lt
  obtain ⟨T, fr, h⟩ := h
  exact ⟨T, fr, by rw [o.block _ hl hB]; exact h⟩
theorem Tab.gr {w w' : World} (h : Tab w) (g : Gr w w') : Tab w' := h.only (Only.ofGr (B := fun _ => False) g) id
/-- The table, and what is written is elsewhere. -/
structure TabB (w : World) (B : Nat → Prop) : Prop where
  tab : Tab w
  out : ¬ B 0
theorem TabB.nx {w w' : World} {B B' : Nat → Prop} (h : TabB w B) (n : Nx B w B' w') : TabB w' B' :=
  ⟨h.tab.only n.only h.out, fun k => by
    rcases n.new _ k with h1 | h1
    · exact h.out h1
    · have := h.tab.lt; omega⟩
theorem tabB_none {w : World} (h : Tab w) : TabB w (fun _ => False) := ⟨h, id⟩
/-- From what a row lists (the table comes third). -/
theorem tab_of {l : List (String × DataW Unit)} {x y : String × DataW Unit} {name : String} {d : DataW Unit} {rest : List (String × DataW Unit)} {w : World} (h : laidMetH Tryz.prog l w) (hf : (l.filter fun x => x.2.handleName?.isNone) = x :: y :: (name, d) :: rest) (hd : d = Lib.tabData .u64 Lib.pow10Tab) (hn : Tryz.prog.globalNamed name = some 0) : Tab w := by
  have h1 := (laidMetH_iff.1 h).1
  rw [hf, hd] at h1
  exact of_tabIs hn (Lib.tabIs_of_head (t := 172) (e := 148) (n := 20) hn (by kernel_rfl) (by kernel_rfl) (by kernel_rfl) (by kernel_rfl) (by kernel_rfl) h1.tail.tail)
/-- What a number looks like; new blocks only. -/
theorem itoa_c (i : Int) (h0 : -9223372036854775808 ≤ i) (h1 : i ≤ 9223372036854775807) (w : World) (h : Tab w) :
    Calls Tryz.prog 44 #[.int .i64 i] w fun e w' => e = .returned (.string (bs (Lib.itoa i))) ∧ Gr w w' :=
  (Any.strconv_Itoa itoaM i h0 h1 w (tabIs_of (by kernel_rfl) h)).mono fun e w' hh => by
    obtain ⟨he, k, os, rfl⟩ := hh
    exact ⟨he, rfl, rfl, rfl, by simp, fun b hb => by rw [heap_grow_old _ _ (by simpa using hb)]; rfl⟩
/-- A small one: nothing is read, nothing is laid. -/
theorem itoa_small_c (i : Nat) (h : i < 100) (w : World) :
    Calls Tryz.prog 44 #[.int .i64 i] w fun e w' => e = .returned (.string (bs (Lib.decDigits i))) ∧ w' = w := Any.strconv_Itoa_small itoaS i h w
end Go.Proofs.YtdlomcgkpiejgaaGreatDoor
/- A run's name. -/
namespace Go.Proofs.YtdlomcgkpiejgaaGreatDoor
open Go.RowKit RnPlain
set_option linter.unusedVariables false
set_option linter.unusedSimpArgs false
set_option maxRecDepth 20000
theorem dec_digB : ∀ (f n : Nat), n < f → Lib.decDigits n = digB n
  | f + 1, n, h => by
    by_cases h10 : n < 10
    · rw [digB_small h10, Lib.decDigits, dif_pos h10]
    · rw [digB_big h10, Lib.decDigits, dif_neg h10, dec_digB f (n / 10) (by omega)]
theorem itoa_digB {i : Int} (h : 0 ≤ i) : Lib.itoa i = digB i.toNat := by
  unfold Lib.itoa
  rw [if_neg (by omega)]
  exact dec_digB (i.toNat + 1) _ (by omega)
theorem name16_c (s : ByteArray) (i : Int) (hi : i ≤ 1000000) (hs : s.size ≤ 100000) (w : World) (hT : Tab w) :
    Calls Tryz.prog 16 #[.string s, .int .i64 i] w fun e w' => e = .returned (.string (nameN s i)) ∧ Gr w w' := by
  by_cases h : i < 0
  · have e : nameN s i = ⟨#[]⟩ := by unfold nameN; rw [if_pos h]
    rw [e]
    clear e hs hT
    go_enter Tryz.func16, Tryz.ntmps16
    go_wp2_with fail
    go_ret
    exact ⟨rfl, Gr.refl _⟩
  · have h0 : 0 ≤ i := by omega
    have CI := Lib.hid (fun (u : World) (g : Gr w u) => itoa_c i (by omega) (by omega) u (hT.gr g))
    have hz : (digB i.toNat).length ≤ 1000001 := Nat.le_trans (digB_le (i.toNat + 1) _ (by omega)) (by omega)
    have e : nameN s i = (s ++ bs [46]) ++ bs (digB i.toNat) := by unfold nameN; rw [if_neg h]
    have E := Lib.hid e
    rw [itoa_digB h0] at CI
    obtain ⟨d, hd⟩ : ∃ d, d = bs (digB i.toNat) := ⟨_, rfl⟩
    have hdz : d.size ≤ 1000001 := by rw [hd]; simpa [bs, ByteArray.size] using hz
    have e2 : nameN s i = (s ++ bs [46]) ++ d := by rw [e, hd]
    have E2 := Lib.hid e2
    rw [← hd] at CI
    obtain ⟨s1, hs1⟩ : ∃ s1, s1 = s ++ (⟨#[46]⟩ : ByteArray) := ⟨_, rfl⟩
    clear hz e e2 hd hT E
    go_enter Tryz.func16, Tryz.ntmps16
    go_wp2_with fail
    refine (CI.out _ (Gr.refl _)).mono ?_; rintro e u ⟨rfl, g⟩
    go_wp2_with fail
    go_ret
    rw [E2.out]
    exact ⟨rfl, g⟩
end Go.Proofs.YtdlomcgkpiejgaaGreatDoor
/- A row of strings of one's own, sorted, and its like neighbours put together; plain facts on both. -/
namespace Go.Proofs.YtdlomcgkpiejgaaGreatDoor
open Go.RowKit Go.Sort LoPlain RnPlain
set_option linter.unusedVariables false
set_option linter.unusedSimpArgs false
set_option maxRecDepth 20000
/-- A string's bytes. -/
def raws (l : List ByteArray) : List (List UInt8) := l.map fun s => s.data.toList
theorem strs_raws (l : List ByteArray) : strs l = (raws l).map encStr := by
  unfold strs raws
  rw [List.map_map]
  refine List.map_congr_left fun s _ => ?_
  show Value.string s = Value.string (bs s.data.toList)
  rw [bs_toList]
theorem raws_bs (r : List (List UInt8)) : raws (r.map bs) = r := by
  unfold raws
  rw [List.map_map]
  conv => rhs; rw [← List.map_id r]
  exact List.map_congr_left fun s _ => by simp [bs]
theorem bs_raws (l : List ByteArray) : (raws l).map bs = l := by
  unfold raws
  rw [List.map_map]
  conv => rhs; rw [← List.map_id l]
  exact List.map_congr_left fun s _ => bs_toList s
theorem raws_len (l : List ByteArray) : (raws l).length = l.length := by simp [raws]
theorem le_bytes {a b : List UInt8} : leT (bs a) (bs b) = true ↔ a ≤ b := by
  rw [le_iff]
  unfold ltT
  rw [Lib.toList_data, Lib.toList_data, bytesLess_eq]
  show decide (b < a) = false ↔ _
  rw [decide_eq_false_iff_not]
  exact List.not_lt
theorem le_bytes2 {a b : ByteArray} : leT a b = true ↔ a.data.toList ≤ b.data.toList := by
  rw [← le_bytes, bs_toList, bs_toList]
/-- The library's order is the document's. -/
theorem merge_sortT (l : List ByteArray) : ((raws l).mergeSort fun x y => decide (x ≤ y)).map bs = sortT l false := by
  refine sortT_is ?_ ?_
  · have h := List.pairwise_mergeSort (le := fun (x y : List UInt8) => decide (x ≤ y)) (fun a b c h k => by
      simp only [decide_eq_true_eq] at h k ⊢
      exact List.le_trans h k) (fun a b => by
      simp only [Bool.or_eq_true, decide_eq_true_eq]
      exact List.le_total a b) (raws l)
    unfold Srt
    rw [List.pairwise_map]
    exact h.imp fun {a b} k => le_bytes.2 (by simpa using k)
  · have h := (List.mergeSort_perm (raws l) fun x y => decide (x ≤ y)).map bs
    rwa [bs_raws] at h
/-- Like neighbours put together: of what is in order the unlike ones are left. -/
theorem keeps_mem {d : List (List UInt8)} (m : Nat) (hm : m ≤ d.length) : (∀ x, x ∈ Lib.compactUpTo d.toArray m ↔ x ∈ d.take m) ∧ (d.Pairwise (fun a b => a ≤ b) → (Lib.compactUpTo d.toArray m).Pairwise (fun a b => a < b) ∧ ∀ x ∈ Lib.compactUpTo d.toArray m, ∀ j : Nat, (h : j < d.length) → m ≤ j + 1 → x ≤ d[j]) := by
  induction m with
  | zero => exact ⟨fun x => by simp [Lib.compactUpTo], fun _ => ⟨by simp [Lib.compactUpTo], fun x hx => by simp [Lib.compactUpTo] at hx⟩⟩
  | succ m ih =>
    obtain ⟨i1, i2⟩ := ih (by omega)
    have hlt : m < d.length := by omega
    have hg : d.toArray[m]! = d[m] := by rw [getElem!_pos d.toArray m (by simpa using hlt)]; simp
    rw [Lib.compactUpTo_succ, hg]
    have htk : d.take (m + 1) = d.take m ++ [d[m]] := by rw [List.take_add_one, List.getElem?_eq_getElem hlt]; rfl
    rw [htk]
    cases hk : Lib.keeps d.toArray m
    · simp only [Bool.false_eq_true, if_false, List.append_nil]
      have hm0 : m ≠ 0 := fun e => by subst e; simp [Lib.keeps] at hk
      have hg1 : d.toArray[m - 1]! = d[m - 1] := by rw [getElem!_pos d.toArray (m - 1) (by simp; omega)]; simp
      have heq : d[m] = d[m - 1] := by
        unfold Lib.keeps at hk
        rw [hg, hg1] at hk
        simp at hk
        exact hk.2
      have hin : d[m] ∈ d.take m := by
        rw [heq]
        exact List.mem_take_iff_getElem.2 ⟨m - 1, by omega, rfl⟩
      refine ⟨fun x => ?_, fun hp => ?_⟩
      · rw [i1 x, List.mem_append]
        exact ⟨.inl, fun h => h.elim id fun h => by rw [List.mem_singleton.1 h]; exact hin⟩
      · obtain ⟨k1, k2⟩ := i2 hp
        exact ⟨k1, fun x hx j hj hmj => k2 x hx j hj (by omega)⟩
    · simp only [if_true]
      refine ⟨fun x => ?_, fun hp => ?_⟩
      · rw [List.mem_append, List.mem_append, i1 x]
      · obtain ⟨k1, k2⟩ := i2 hp
        refine ⟨List.pairwise_append.2 ⟨k1, by simp, fun a ha b hb => ?_⟩, fun x hx j hj hmj => ?_⟩
        · rw [List.mem_singleton.1 hb]
          have hle : a ≤ d[m] := k2 a ha m hlt (by omega)
          by_cases hm0 : m = 0
          · subst hm0; simp [Lib.compactUpTo] at ha
          · have hg1 : d.toArray[m - 1]! = d[m - 1] := by rw [getElem!_pos d.toArray (m - 1) (by simp; omega)]; simp
            have hne : d[m] ≠ d[m - 1] := by
              intro e
              unfold Lib.keeps at hk
              rw [hg, hg1] at hk
              simp [e] at hk
              exact hm0 hk
            have h1 : a ≤ d[m - 1] := k2 a ha (m - 1) (by omega) (by omega)
            have h2 : d[m - 1] ≤ d[m] := (List.pairwise_iff_getElem.1 hp) (m - 1) m (by omega) hlt (by omega)
            rcases List.le_iff_lt_or_eq.1 h2 with h3 | h3
            · exact List.lt_of_le_of_lt h1 h3
            · exact absurd h3.symm hne
        · rcases List.mem_append.1 hx with hx | hx
          · exact k2 x hx j hj (by omega)
          · rw [List.mem_singleton.1 hx]
            by_cases e : j = m
            · subst e; exact List.le_refl _
            · exact (List.pairwise_iff_getElem.1 hp) m j hlt hj (by omega)
/-- The like ones of a sorted row put together. -/
theorem compact_sortT (l : List ByteArray) : (Lib.compact (raws (sortT l false))).map bs = sortT l true := by
  have hs : (raws (sortT l false)).Pairwise fun a b => a ≤ b := by
    unfold raws
    rw [List.pairwise_map]
    exact (sortT_srt l false).imp fun {a b} h => le_bytes2.1 h
  obtain ⟨k1, k2⟩ := keeps_mem (d := raws (sortT l false)) (raws (sortT l false)).length (Nat.le_refl _)
  obtain ⟨k3, _⟩ := k2 hs
  have e : Lib.compact (raws (sortT l false)) = Lib.compactUpTo (raws (sortT l false)).toArray (raws (sortT l false)).length := rfl
  rw [← e] at k1 k3
  refine sortT_isU ?_ ?_ fun x => ?_
  · unfold Srt
    rw [List.pairwise_map]
    exact k3.imp fun {a b} h => le_bytes.2 (List.le_of_lt h)
  · refine List.pairwise_map.2 (k3.imp fun {a b} h hab => ?_)
    have : a = b := by
      have := congrArg (fun s : ByteArray => s.data.toList) hab
      simpa [bs] using this
    subst this
    exact List.lt_irrefl _ h
  · rw [List.mem_map]
    constructor
    · rintro ⟨a, ha, rfl⟩
      rw [k1 a, List.take_length] at ha
      obtain ⟨s, h1, rfl⟩ := List.mem_map.1 ha
      rw [bs_toList]
      exact (sortT_perm l).mem_iff.1 h1
    · intro hx
      refine ⟨x.data.toList, ?_, bs_toList x⟩
      rw [k1, List.take_length]
      exact List.mem_map.2 ⟨x, (sortT_perm l).mem_iff.2 hx, rfl⟩
theorem sortT_len (l : List ByteArray) : (sortT l false).length = l.length := (sortT_perm l).length_eq
theorem only_put {w : World} {g q : Nat} {os : Array Obj} (d : Array (List UInt8)) : Only (fun i => i = g) w (grow (putRow encStr (Sort.ahead w q) g 0 d) os) :=
  Only.grown (grownBy_sorted d) fun k h => by cases h; rfl
/-- A row sorted where it is. -/
theorem row_sorted {v : Value} {l : List ByteArray} {w : World} {B : Nat → Prop} {g cap q : Nat} {os : Array Obj} (h : RowA v l w B) (hv : v = .slice (some ⟨g, 0, none⟩) l.length cap) :
    ∃ B', RowA v (sortT l false) (grow (putRow encStr (Sort.ahead w q) g 0 ((raws l).mergeSort fun x y => decide (x ≤ y)).toArray) os) B' ∧ Nx B w B' (grow (putRow encStr (Sort.ahead w q) g 0 ((raws l).mergeSort fun x y => decide (x ≤ y)).toArray) os) := by
  obtain ⟨⟨_, h2⟩, hB, hl⟩ := h
  subst hv
  rcases h2 with ⟨h0, _⟩ | ⟨g', cap', cur, he, _, hb, h3, h4, h5, h6⟩
  · cases h0
  · cases he
    have ho := only_put (w := w) (g := g) (q := q) (os := os) ((raws l).mergeSort fun x y => decide (x ≤ y)).toArray
    have hlen : ((raws l).mergeSort fun x y => decide (x ≤ y)).length = (raws l).length := by simp
    have key := ownsRow_sorted (os := os) (n := q) (base := 0) (e := 9) (ss := raws l) hlen (Nat.zero_le g) hb (by rw [raws_len]; exact h3) h4 h5
    rw [raws_len] at key
    refine ⟨B, ⟨?_, hB, fun b hb' => Nat.lt_of_lt_of_le (hl b hb') ho.size⟩, Nx.of ho fun b hb' => by rw [hb']; exact hB g rfl⟩
    rw [sortT_len, strs_raws, ← merge_sortT, raws_bs]
    exact key
theorem row_holds {v : Value} {l : List ByteArray} {w : World} {B : Nat → Prop} (h : RowA v l w B) : (v = .slice none 0 0 ∧ l = []) ∨ ∃ g cap, v = .slice (some ⟨g, 0, none⟩) l.length cap ∧ Holds encStr w g 0 (raws l).toArray ∧ g < w.heap.size ∧ l.length ≤ cap ∧ l.length ≤ maxLen := by
  obtain ⟨⟨h1, h2⟩, hB, hl⟩ := h
  rcases h2 with ⟨h0, h3⟩ | ⟨g, cap, cur, he, _, hb, h3, h4, h5, h6⟩
  · exact .inl ⟨h0, List.eq_nil_of_length_eq_zero h3⟩
  · refine .inr ⟨g, cap, he, holds_of_block hb ?_, lt_of_block hb, h3, Nat.le_trans h3 h4⟩
    rw [raws_len, ← strs_raws, ← h6, Nat.mul_one]
theorem holds_len {w : World} {g : Nat} {l : List ByteArray} : (raws l).toArray.size = l.length := by simp [raws]
/-- The row behind Compact: what is left is the row, in the same block. -/
theorem row_compact {v : Value} {l : List ByteArray} {w : World} {B : Nat → Prop} {g cap q : Nat} (h : RowA v (sortT l false) w B) (hv : v = .slice (some ⟨g, 0, none⟩) l.length cap) :
    ∃ B', RowA (.slice (some ⟨g, 0, none⟩) (Lib.compact (raws (sortT l false))).length cap) (sortT l true) (putRow encStr (Sort.ahead w q) g 0 (Lib.compact (raws (sortT l false)) ++ List.replicate ((raws (sortT l false)).length - (Lib.compact (raws (sortT l false))).length) []).toArray) B' ∧
      Nx B w B' (putRow encStr (Sort.ahead w q) g 0 (Lib.compact (raws (sortT l false)) ++ List.replicate ((raws (sortT l false)).length - (Lib.compact (raws (sortT l false))).length) []).toArray) := by
  obtain ⟨⟨_, h2⟩, hB, hl⟩ := h
  rw [← sortT_len l] at hv
  subst hv
  rcases h2 with ⟨h0, _⟩ | ⟨g', cap', cur, he, _, hb, h3, h4, h5, h6⟩
  · cases h0
  · cases he
    have hc : (Lib.compact (raws (sortT l false))).length ≤ l.length := by
      have h := congrArg List.length (compact_sortT l)
      rw [List.length_map] at h
      rw [h]; exact sortT_le l true
    have hrl : (raws (sortT l false)).length = l.length := by rw [raws_len, sortT_len]
    have e : ∀ d : Array (List UInt8), putRow encStr (Sort.ahead w q) g 0 d = grow (putRow encStr (Sort.ahead w q) g 0 d) #[] := fun d => (grow_empty _).symm
    rw [e]
    have ho := only_put (w := w) (g := g) (q := q) (os := #[]) (Lib.compact (raws (sortT l false)) ++ List.replicate ((raws (sortT l false)).length - (Lib.compact (raws (sortT l false))).length) []).toArray
    refine ⟨B, ⟨?_, fun b hb' => hB b hb', fun b hb' => Nat.lt_of_lt_of_le (hl b hb') ho.size⟩, Nx.of ho fun b hb' => by rw [hb']; exact hB g rfl⟩
    have hst : strs (sortT l true) = (Lib.compact (raws (sortT l false))).map encStr := by rw [strs_raws, ← compact_sortT, raws_bs]
    have hsl : (sortT l true).length = (Lib.compact (raws (sortT l false))).length := by
      have h := congrArg List.length (compact_sortT l)
      rw [List.length_map] at h
      exact h.symm
    rw [sortT_len] at h3
    refine ⟨by rw [hst, hsl]; simp, .inr ⟨g, cap, _, by rw [hsl], Nat.zero_le _, heap_sorted _ hb, by rw [hsl]; omega, h4, by simp [putCells, h5], ?_⟩⟩
    rw [hst, hsl, Nat.mul_one]
    have hcs : cur.size = cap := by rw [h5, Nat.mul_one]
    have ht := take_putCells cur (Lib.compact (raws (sortT l false)) ++ List.replicate ((raws (sortT l false)).length - (Lib.compact (raws (sortT l false))).length) []) (by
      rw [List.length_append, List.length_replicate, hrl]; omega)
    have h7 : ∀ (x : List Value) (n k : Nat), x.take n = (x.take (n + k)).take n := fun x n k => by rw [List.take_take, Nat.min_eq_left (Nat.le_add_right _ _)]
    rw [h7 _ _ ((List.replicate ((raws (sortT l false)).length - (Lib.compact (raws (sortT l false))).length) ([] : List UInt8)).length), ← List.length_append, ht, List.map_append, List.take_append_of_le_length (by simp)]
    exact List.take_of_length_le (by simp)
end Go.Proofs.YtdlomcgkpiejgaaGreatDoor
