/- In one text: StPlain, Itoa, StA. -/
import Derived.Test.YtignfbdgpgidpaaGreatDoorK34
import Derived.Test.YtignfbdgpgidpaaGreatDoorK10
import Derived.Shelf.Strconv.Itoa0
import Derived.Shelf.Strconv.Itoa1
import Derived.Shelf.LaysM
import Derived.Shelf.Strconv.Itoa2
import Derived.Shelf.Strconv.Itoa3
import Derived.Lib.LaidTab
import Derived.LaidSub
import Derived.Stop.LaidErr
import Derived.Test.YtignfbdgpgidpaaGreatDoorK06
import Derived.Test.YtignfbdgpgidpaaGreatDoorK23
import Derived.Test.YtignfbdgpgidpaaGreatDoorK15
/- Plain facts of stage: what comes next, the files of what is done; from nothing on Done comes. -/
namespace Go.Proofs.YtignfbdgpgidpaaGreatDoor
open Go.RowKit FsPlain MnPlain RnPlain
set_option linter.unusedVariables false
set_option linter.unusedSimpArgs false
set_option maxRecDepth 20000
namespace StPlain
def rightP (s p r : Int) : Bool := decide ((1 ≤ r ∧ r ≤ 64) ∧ (((s = 0 ∨ s = 1 ∨ s = 2 ∨ s = 3 ∨ s = 6 ∨ s = 7) ∧ p = 0) ∨ (s = 4 ∧ 1 ≤ p ∧ p < r) ∨ (s = 5 ∧ 1 ≤ p ∧ p ≤ r)))
def nextP (s p r : Int) (stop : Bool) : Int × Int × Bool :=
  if rightP s p r = false ∨ s = 7 then (0, 0, false)
  else if s = 3 ∨ s = 4 then (if stop = true ∨ r ≤ p + 1 then (5, p + 1, true) else (4, p + 1, true))
  else (s + 1, 0, true)
def gnB (p : Int) : ByteArray := if p < 0 then ⟨#[]⟩ else bs ([103, 114, 97, 112, 104, 46] ++ digB p.toNat)
def pairsO : Fl := ⟨⟨#[112, 97, 105, 114, 115, 46, 111, 117, 116]⟩, 8, 0, 0⟩
def filesP (s p : Int) : List Fl :=
  if p < 0 ∨ 1000 < p then []
  else if s = 1 then [⟨⟨#[99, 101, 108, 108, 115]⟩, 12, 0, 0⟩]
  else if s = 2 then [pairsO]
  else if s = 3 then [pairsO, ⟨gnB 0, 17, 0, 0⟩]
  else if s = 4 ∨ s = 5 then [pairsO, ⟨gnB p, 17, 0, 0⟩]
  else if s = 6 then [pairsO, ⟨⟨#[103, 114, 97, 112, 104, 46, 111, 117, 116]⟩, 17, 0, 0⟩]
  else if s = 7 then [⟨⟨#[112, 97, 105, 114, 115]⟩, 8, 0, 0⟩, ⟨⟨#[103, 114, 97, 112, 104]⟩, 17, 0, 0⟩]
  else []
def nsEq : List Fl → List Fl → Bool
  | [], [] => true
  | x :: a, y :: b => decide (x.name = y.name ∧ x.size = y.size) && nsEq a b
  | _, _ => false
def fitP (m : Mn) (r : Int) : Bool := mnB m && (rightP m.stage m.pass r && (decide (m.stage ≠ 0) && nsEq m.files (filesP m.stage m.pass)))
theorem nsEq_self : ∀ l : List Fl, nsEq l l = true
  | [] => rfl
  | x :: l => by simp [nsEq, nsEq_self l]
theorem rightP_iff {s p r : Int} : rightP s p r = true ↔ ((1 ≤ r ∧ r ≤ 64) ∧ (((s = 0 ∨ s = 1 ∨ s = 2 ∨ s = 3 ∨ s = 6 ∨ s = 7) ∧ p = 0) ∨ (s = 4 ∧ 1 ≤ p ∧ p < r) ∨ (s = 5 ∧ 1 ≤ p ∧ p ≤ r))) := decide_eq_true_iff
def AtP (s p r : Int) (i : Int) : Prop := rightP s p r = true ∧ s ≠ 7 ∧ ((s ≤ 3 ∧ i = s) ∨ ((s = 4 ∨ s = 5) ∧ i = 3 + p) ∨ (s = 6 ∧ i ≤ r + 4))
theorem at_next {s p r i : Int} (stop : Bool) (h : AtP s p r i) {t q : Int} {ok : Bool} (e : nextP s p r stop = (t, q, ok)) :
    ok = true ∧ rightP t q r = true ∧ ¬ t < s ∧ ¬ (t = s ∧ q ≤ p) ∧ t ≠ 0 ∧ (t = 7 ∨ AtP t q r (i + 1)) := by
  obtain ⟨h1, h7, h⟩ := h
  have k := rightP_iff.1 h1
  unfold nextP at e
  rw [if_neg (by rintro (h | h); rw [h1] at h; cases h; exact h7 h)] at e
  have mk : ∀ {t q : Int}, ((1 ≤ r ∧ r ≤ 64) ∧ (((t = 0 ∨ t = 1 ∨ t = 2 ∨ t = 3 ∨ t = 6 ∨ t = 7) ∧ q = 0) ∨ (t = 4 ∧ 1 ≤ q ∧ q < r) ∨ (t = 5 ∧ 1 ≤ q ∧ q ≤ r))) → rightP t q r = true := fun h => rightP_iff.2 h
  by_cases h34 : s = 3 ∨ s = 4
  · rw [if_pos h34] at e
    by_cases hs : stop = true ∨ r ≤ p + 1
    · rw [if_pos hs] at e
      simp only [Prod.mk.injEq] at e
      obtain ⟨rfl, rfl, rfl⟩ := e
      refine ⟨rfl, mk (by omega), by omega, by omega, by omega, .inr ⟨mk (by omega), by omega, ?_⟩⟩
      omega
    · rw [if_neg hs] at e
      have hr : ¬ r ≤ p + 1 := fun h => hs (.inr h)
      simp only [Prod.mk.injEq] at e
      obtain ⟨rfl, rfl, rfl⟩ := e
      refine ⟨rfl, mk (by omega), by omega, by omega, by omega, .inr ⟨mk (by omega), by omega, ?_⟩⟩
      omega
  · rw [if_neg h34] at e
    simp only [Prod.mk.injEq] at e
    obtain ⟨rfl, rfl, rfl⟩ := e
    refine ⟨rfl, mk (by omega), by omega, by omega, by omega, ?_⟩
    by_cases h6 : s = 6
    · exact .inl (by omega)
    · refine .inr ⟨mk (by omega), by omega, ?_⟩
      omega
theorem gn_name {p : Nat} (h : p < 10000) : rightB (gnB (p : Int)).data.toList = true := by
  unfold gnB
  rw [if_neg (by omega), Int.toNat_natCast]
  obtain ⟨h1, h2⟩ := dig_few p h
  have hd := dig_right (p + 1) p (by omega)
  unfold rightB
  have e : (bs ([103, 114, 97, 112, 104, 46] ++ digB p)).data.toList = [103, 114, 97, 112, 104, 46] ++ digB p := by simp [bs]
  rw [e, List.all_append, hd, List.length_append]
  have : decide (1 ≤ ([103, 114, 97, 112, 104, 46] : List UInt8).length + (digB p).length ∧ ([103, 114, 97, 112, 104, 46] : List UInt8).length + (digB p).length ≤ 24) = true := decide_eq_true (by simp; omega)
  rw [this]
  decide
theorem gn_ne {p : Nat} : gnB (p : Int) ≠ pairsO.name := by
  intro h
  have := congrArg (fun s : ByteArray => s.data.toList[0]?) h
  unfold gnB at this
  rw [if_neg (by omega)] at this
  simp [bs, pairsO] at this
theorem new_one {f : Fl} (h : flB f = true) : newB [] [f] = true := by simp [newB, h]
theorem new_two {f g : Fl} (h : flB f = true) (k : flB g = true) (n : f.name ≠ g.name) : newB [] [f, g] = true := by simp [newB, h, k, n]
theorem gn_flB {p : Nat} (h : p < 10000) : flB ⟨gnB (p : Int), 17, 0, 0⟩ = true := by
  unfold flB
  rw [gn_name h]
  show (true && decide (((1 : Int) ≤ 17 ∧ (17 : Int) ≤ 64) ∧ (0 : Int) ≤ 0 ∧ (0 : Int) ≤ 4611686018427387904)) = true
  decide
theorem fit_files {t q r : Int} (h : rightP t q r = true) (h0 : t ≠ 0) : fitP ⟨t, q, filesP t q⟩ r = true := by
  have k := rightP_iff.1 h
  obtain ⟨n, rfl⟩ : ∃ n : Nat, q = (n : Int) := ⟨q.toNat, by omega⟩
  have hn : n ≤ 64 := by omega
  have hne : ∀ m : Nat, pairsO.name ≠ gnB (m : Int) := fun m e => gn_ne e.symm
  have hf : newB [] (filesP t n) = true ∧ (filesP t n).length ≤ 16 := by
    unfold filesP
    rw [if_neg (by omega)]
    by_cases h1 : t = 1
    · rw [if_pos h1]; exact ⟨new_one (by decide), by decide⟩
    rw [if_neg h1]
    by_cases h2 : t = 2
    · rw [if_pos h2]; exact ⟨new_one (by decide), by decide⟩
    rw [if_neg h2]
    by_cases h3 : t = 3
    · rw [if_pos h3]; exact ⟨new_two (by decide) (gn_flB (p := 0) (by omega)) (hne 0), by simp⟩
    rw [if_neg h3]
    by_cases h4 : t = 4 ∨ t = 5
    · rw [if_pos h4]; exact ⟨new_two (by decide) (gn_flB (by omega)) (hne n), by simp⟩
    rw [if_neg h4]
    by_cases h6 : t = 6
    · rw [if_pos h6]; exact ⟨new_two (by decide) (by decide) (by decide), by decide⟩
    rw [if_neg h6]
    by_cases h7 : t = 7
    · rw [if_pos h7]; exact ⟨new_two (by decide) (by decide) (by decide), by decide⟩
    rw [if_neg h7]
    exact ⟨rfl, by decide⟩
  unfold fitP mnB
  rw [h, hf.1, nsEq_self, decide_eq_true h0, decide_eq_true (show ((1 ≤ t ∧ t ≤ 7) ∧ (0 ≤ (n : Int) ∧ (n : Int) ≤ 1000) ∧ (filesP t n).length ≤ 16) from ⟨by omega, by omega, hf.2⟩)]
  rfl
theorem gn_size {p : Int} (h : p ≤ 1000) : (gnB p).size ≤ 24 := by
  by_cases h0 : p < 0
  · unfold gnB; rw [if_pos h0]; decide
  · obtain ⟨n, rfl⟩ : ∃ n : Nat, p = (n : Int) := ⟨p.toNat, by omega⟩
    have := gn_name (p := n) (by omega)
    unfold rightB at this
    simp only [Bool.and_eq_true, decide_eq_true_eq] at this
    exact this.2.2
theorem files_K (t q : Int) : ∀ f ∈ filesP t q, f.name.size ≤ 24 ∧ 1 ≤ f.size ∧ f.size ≤ 64 ∧ f.count = 0 ∧ f.sum = 0 := by
  intro f hf
  unfold filesP at hf
  split at hf
  · cases hf
  · next hq =>
    have g0 := gn_size (p := 0) (by omega)
    have gq := gn_size (p := q) (by omega)
    (repeat' split at hf) <;> simp only [List.mem_cons, List.not_mem_nil, or_false] at hf
    · subst hf; decide
    · subst hf; decide
    · rcases hf with rfl | rfl
      · decide
      · exact ⟨g0, (by show (1 : Int) ≤ 17; decide), (by show (17 : Int) ≤ 64; decide), rfl, rfl⟩
    · rcases hf with rfl | rfl
      · decide
      · exact ⟨gq, (by show (1 : Int) ≤ 17; decide), (by show (17 : Int) ≤ 64; decide), rfl, rfl⟩
    · rcases hf with rfl | rfl <;> decide
    · rcases hf with rfl | rfl <;> decide
theorem files_few (t q : Int) : (filesP t q).length ≤ 2 := by
  unfold filesP
  (repeat' split) <;> simp
end StPlain
end Go.Proofs.YtignfbdgpgidpaaGreatDoor
/- strconv.Itoa: the library's contract, laid at this program's numbers; the table that it reads; a run's name. -/
namespace Go.Proofs.YtignfbdgpgidpaaGreatDoor
open Go.RowKit Go.Shelf Go.Sort
set_option linter.unusedVariables false
set_option linter.unusedSimpArgs false
set_option maxRecDepth 20000
def itoaM_ren : Go.Shelf.Ren := ⟨fun | 171 => 174 | 243 => 194 | 246 => 204 | 283 => 206 | 284 => 207 | 285 => 208 | 286 => 209 | 129 => 187 | 317 => 210 | 318 => 211 | 319 => 212 | 320 => 213 | 337 => 214 | 338 => 215 | n => n, fun | 3 => 3 | 9 => 9 | 2 => 2 | 4 => 4 | 171 => 233 | 0 => 0 | 53 => 218 | 37 => 94 | 5 => 5 | 173 => 235 | 212 => 238 | 51 => 46 | 20 => 20 | 213 => 239 | 46 => 77 | 232 => 240 | 233 => 241 | n => n, fun | 17 => 0 | 18 => 1 | 19 => 2 | n => n⟩
theorem itoaM : Go.Proofs.LaysM.n171 Tryz.prog itoaM_ren := {
  mixed := by kernel_rfl
  f129 := Tryz.func187.trans (congrArg some (by kernel_rfl))
  f171 := Tryz.func174.trans (congrArg some (by kernel_rfl))
  f243 := Tryz.func194.trans (congrArg some (by kernel_rfl))
  f246 := Tryz.func204.trans (congrArg some (by kernel_rfl))
  f283 := Tryz.func206.trans (congrArg some (by kernel_rfl))
  f284 := Tryz.func207.trans (congrArg some (by kernel_rfl))
  f285 := Tryz.func208.trans (congrArg some (by kernel_rfl))
  f286 := Tryz.func209.trans (congrArg some (by kernel_rfl))
  f317 := Tryz.func210.trans (congrArg some (by kernel_rfl))
  f318 := Tryz.func211.trans (congrArg some (by kernel_rfl))
  f319 := Tryz.func212.trans (congrArg some (by kernel_rfl))
  f320 := Tryz.func213.trans (congrArg some (by kernel_rfl))
  f337 := Tryz.func214.trans (congrArg some (by kernel_rfl))
  f338 := Tryz.func215.trans (congrArg some (by kernel_rfl))
  t0 := Tryz.underlying0
  a0 := Tryz.isAgg0
  z0 := Tryz.sizeOf0
  v0 := Tryz.zeroValue0
  t2 := Tryz.underlying2
  a2 := Tryz.isAgg2
  z2 := Tryz.sizeOf2
  v2 := Tryz.zeroValue2
  t3 := Tryz.underlying3
  a3 := Tryz.isAgg3
  z3 := Tryz.sizeOf3
  v3 := Tryz.zeroValue3
  t4 := Tryz.underlying4
  a4 := Tryz.isAgg4
  z4 := Tryz.sizeOf4
  v4 := Tryz.zeroValue4
  t5 := Tryz.underlying5
  a5 := Tryz.isAgg5
  z5 := Tryz.sizeOf5
  v5 := Tryz.zeroValue5
  t9 := Tryz.underlying9
  a9 := Tryz.isAgg9
  z9 := Tryz.sizeOf9
  v9 := Tryz.zeroValue9
  t20 := Tryz.underlying20
  a20 := Tryz.isAgg20
  z20 := Tryz.sizeOf20
  v20 := Tryz.zeroValue20
  t37 := Tryz.underlying94
  a37 := Tryz.isAgg94
  z37 := Tryz.sizeOf94
  v37 := Tryz.zeroValue94
  t46 := Tryz.underlying77
  a46 := Tryz.isAgg77
  z46 := Tryz.sizeOf77
  v46 := Tryz.zeroValue77
  t51 := Tryz.underlying46
  a51 := Tryz.isAgg46
  z51 := Tryz.sizeOf46
  v51 := Tryz.zeroValue46
  t53 := Tryz.underlying218
  a53 := Tryz.isAgg218
  z53 := Tryz.sizeOf218
  v53 := Tryz.zeroValue218
  t171 := Tryz.underlying233
  a171 := Tryz.isAgg233
  z171 := Tryz.sizeOf233
  v171 := Tryz.zeroValue233
  t173 := Tryz.underlying235
  a173 := Tryz.isAgg235
  z173 := Tryz.sizeOf235
  v173 := Tryz.zeroValue235
  t212 := Tryz.underlying238
  a212 := Tryz.isAgg238
  z212 := Tryz.sizeOf238
  v212 := Tryz.zeroValue238
  t213 := Tryz.underlying239
  a213 := Tryz.isAgg239
  z213 := Tryz.sizeOf239
  t232 := Tryz.underlying240
  a232 := Tryz.isAgg240
  z232 := Tryz.sizeOf240
  v232 := Tryz.zeroValue240
  t233 := Tryz.underlying241
  a233 := Tryz.isAgg241
  z233 := Tryz.sizeOf241
  v233 := Tryz.zeroValue241
  g17 := by kernel_rfl
  g18 := by kernel_rfl
  g19 := by kernel_rfl
  i0 := by kernel_rfl
  i2 := by kernel_rfl
  i3 := by kernel_rfl
  i4 := by kernel_rfl
  i5 := by kernel_rfl
  i9 := by kernel_rfl
  i20 := by kernel_rfl
  i37 := by kernel_rfl
  i46 := by kernel_rfl
  i51 := by kernel_rfl
  i53 := by kernel_rfl
  i171 := by kernel_rfl
  i173 := by kernel_rfl
  i212 := by kernel_rfl
  i232 := by kernel_rfl
  i233 := by kernel_rfl
  m17 := by kernel_rfl
  m18 := by kernel_rfl
  m19 := by kernel_rfl }
def Tab (w : World) : Prop := ∃ T fr, w.heap[0]? = some (.cells (Lib.pow10Tab.map fun z => Value.int .u64 z).toArray T fr)
theorem tabIs_of {P : Program} {w : World} {name : String} {k : IntKind} {zs : List Int} {g : Nat} (hg : P.globalNamed name = some g) (h : ∃ T fr, w.heap[g]? = some (.cells (zs.map fun z => Value.int k z).toArray T fr)) : Lib.TabIs P w name k zs := by
  obtain ⟨T, fr, h⟩ := h
  unfold Lib.TabIs World.var?
  rw [hg]
  simp only [Option.bind_some, h]
theorem of_tabIs {P : Program} {w : World} {name : String} {k : IntKind} {zs : List Int} {g : Nat} (hg : P.globalNamed name = some g) (h : Lib.TabIs P w name k zs) : ∃ T fr, w.heap[g]? = some (.cells (zs.map fun z => Value.int k z).toArray T fr) := by
  unfold Lib.TabIs World.var? at h
  rw [hg] at h
  simp only [Option.bind_some] at h
  split at h
  · rename_i cs T fr hb
    simp only [Option.some.injEq] at h
    exact ⟨T, fr, by rw [hb, h]⟩
  · cases h
theorem Tab.lt {w : World} (h : Tab w) : 0 < w.heap.size := by
  obtain ⟨T, fr, h⟩ := h
  exact (Array.getElem?_eq_some_iff.1 h).1
theorem Tab.only {w w' : World} {B : Nat → Prop} (h : Tab w) (o : Only B w w') (hB : ¬ B 0) : Tab w' := by
  have hl := h.lt
  obtain ⟨T, fr, h⟩ := h
  exact ⟨T, fr, by rw [o.block _ hl hB]; exact h⟩
theorem Tab.gr {w w' : World} (h : Tab w) (g : Gr w w') : Tab w' := h.only (Only.ofGr (B := fun _ => False) g) id
theorem tab_of {l : List (String × DataW Unit)} {x y : String × DataW Unit} {name : String} {d : DataW Unit} {rest : List (String × DataW Unit)} {w : World} (h : laidMetH Tryz.prog l w) (hf : (l.filter fun x => x.2.handleName?.isNone) = x :: y :: (name, d) :: rest) (hd : d = Lib.tabData .u64 Lib.pow10Tab) (hn : Tryz.prog.globalNamed name = some 0) : Tab w := by
  have h1 := (laidMetH_iff.1 h).1
  rw [hf, hd] at h1
  exact of_tabIs hn (Lib.tabIs_of_head (t := 238) (e := 218) (n := 20) hn (by kernel_rfl) (by kernel_rfl) (by kernel_rfl) (by kernel_rfl) (by kernel_rfl) h1.tail.tail)
theorem itoa_c (i : Int) (h0 : -9223372036854775808 ≤ i) (h1 : i ≤ 9223372036854775807) (w : World) (h : Tab w) :
    Calls Tryz.prog 174 #[.int .i64 i] w fun e w' => e = .returned (.string (bs (Lib.itoa i))) ∧ Gr w w' :=
  (Any.strconv_Itoa itoaM i h0 h1 w (tabIs_of (by kernel_rfl) h)).mono fun e w' hh => by
    obtain ⟨he, k, os, rfl⟩ := hh
    exact ⟨he, rfl, rfl, rfl, by simp, fun b hb => by rw [heap_grow_old _ _ (by simpa using hb)]; rfl⟩
end Go.Proofs.YtignfbdgpgidpaaGreatDoor
/- The program's layer 21: within, Right, round, Next, Graph. -/
namespace Go.Proofs.YtignfbdgpgidpaaGreatDoor
open Go.RowKit FsPlain MnPlain RnPlain StPlain
set_option linter.unusedVariables false
set_option linter.unusedSimpArgs false
set_option maxRecDepth 20000
theorem within21_c (n a b : Int) {r : Bool} (hr : decide (a ≤ n ∧ n ≤ b) = r) (w : World) :
    Calls Tryz.prog 150 #[.int .i64 n, .int .i64 a, .int .i64 b] w fun e w' => e = .returned (.bool r) ∧ w = w' := by
  by_cases h1 : a ≤ n
  · by_cases h2 : n ≤ b
    · obtain rfl : r = true := by rw [← hr, decide_eq_true ⟨h1, h2⟩]
      clear hr
      go_enter Tryz.func150, Tryz.ntmps150
      go_wp2_with fail
      go_ret
      exact ⟨rfl, rfl⟩
    · obtain rfl : r = false := by rw [← hr, decide_eq_false (fun k => h2 k.2)]
      clear hr
      go_enter Tryz.func150, Tryz.ntmps150
      go_wp2_with fail
      go_ret
      exact ⟨rfl, rfl⟩
  · obtain rfl : r = false := by rw [← hr, decide_eq_false (fun k => h1 k.1)]
    clear hr
    go_enter Tryz.func150, Tryz.ntmps150
    go_wp2_with fail
    go_ret
    exact ⟨rfl, rfl⟩
theorem grst (w : World) (o : Obj) : Gr w (w.alloc o) := Below.alloc (Below.refl _ _) (Nat.le_refl _) _
set_option maxHeartbeats 1000000 in
theorem right21_c (s p r : Int) (hs : I64 s) (hp : I64 p) (hr : I64 r) (w : World) : Calls Tryz.prog 120 #[.agg #[.int .i64 s, .int .i64 p], .int .i64 r] w fun e w' => e = .returned (.bool (rightP s p r)) ∧ Gr w w' := by
  have HG := Lib.hid (grst w (.cells #[.int .i64 s, .int .i64 p] 162))
  unfold I64 at hs hp hr
  obtain ⟨R, hR⟩ : ∃ R, rightP s p r = R := ⟨_, rfl⟩
  rw [hR]
  by_cases hr1 : 1 ≤ r ∧ r ≤ 64
  · have W1 := Lib.hid (fun v => within21_c r 1 64 (decide_eq_true hr1) v)
    obtain ⟨b4, h4⟩ : ∃ b, decide (1 ≤ p ∧ p ≤ r - 1) = b := ⟨_, rfl⟩
    have W4 := Lib.hid (fun v => within21_c p 1 (r - 1) h4 v)
    obtain ⟨b5, h5⟩ : ∃ b, decide (1 ≤ p ∧ p ≤ r) = b := ⟨_, rfl⟩
    have W5 := Lib.hid (fun v => within21_c p 1 r h5 v)
    by_cases c0 : s = 0 ∨ s = 1 ∨ s = 2 ∨ s = 3 ∨ s = 6 ∨ s = 7
    · obtain ⟨b0, h0⟩ : ∃ b, ((p : Int) == 0) = b := ⟨_, rfl⟩
      obtain rfl : R = b0 := by
        rw [← hR, ← h0, Bool.eq_iff_iff, rightP_iff, beq_iff_eq]
        constructor
        · intro h; omega
        · intro h; exact ⟨hr1, .inl ⟨c0, h⟩⟩
      clear hR h4 h5 W4 W5
      rcases c0 with rfl | rfl | rfl | rfl | rfl | rfl <;>
      · go_enter Tryz.func120, Tryz.ntmps120
        go_wp2_with fail
        refine (W1.out _).mono ?_; rintro e u ⟨rfl, rfl⟩
        go_wp2_with fail
        go_ret
        exact ⟨rfl, HG.out⟩
    · by_cases c4 : s = 4
      · subst c4
        obtain rfl : R = b4 := by
          rw [← hR, ← h4, Bool.eq_iff_iff, rightP_iff, decide_eq_true_iff]
          omega
        clear hR h4 h5 W5 c0
        go_enter Tryz.func120, Tryz.ntmps120
        go_wp2_with fail
        refine (W1.out _).mono ?_; rintro e u ⟨rfl, rfl⟩
        go_wp2_with fail
        refine (W4.out _).mono ?_; rintro e u ⟨rfl, rfl⟩
        go_wp2_with fail
        go_ret
        exact ⟨rfl, HG.out⟩
      · by_cases c5 : s = 5
        · subst c5
          obtain rfl : R = b5 := by
            rw [← hR, ← h5, Bool.eq_iff_iff, rightP_iff, decide_eq_true_iff]
            omega
          clear hR h4 h5 W4 c0
          go_enter Tryz.func120, Tryz.ntmps120
          go_wp2_with fail
          refine (W1.out _).mono ?_; rintro e u ⟨rfl, rfl⟩
          go_wp2_with fail
          refine (W5.out _).mono ?_; rintro e u ⟨rfl, rfl⟩
          go_wp2_with fail
          go_ret
          exact ⟨rfl, HG.out⟩
        · obtain rfl : R = false := by
            rw [← hR]
            exact decide_eq_false (fun h => by omega)
          have n0 : ¬ s = 0 := fun h => c0 (by omega)
          have n1 : ¬ s = 1 := fun h => c0 (by omega)
          have n2 : ¬ s = 2 := fun h => c0 (by omega)
          have n3 : ¬ s = 3 := fun h => c0 (by omega)
          have n6 : ¬ s = 6 := fun h => c0 (by omega)
          have n7 : ¬ s = 7 := fun h => c0 (by omega)
          clear hR h4 h5 W4 W5 c0
          go_enter Tryz.func120, Tryz.ntmps120
          go_wp2_with fail
          refine (W1.out _).mono ?_; rintro e u ⟨rfl, rfl⟩
          go_wp2_with fail
          go_ret
          exact ⟨rfl, HG.out⟩
  · have W1 := Lib.hid (fun v => within21_c r 1 64 (decide_eq_false hr1) v)
    obtain rfl : R = false := by
      rw [← hR]
      exact decide_eq_false (fun h => hr1 h.1)
    clear hR
    go_enter Tryz.func120, Tryz.ntmps120
    go_wp2_with fail
    refine (W1.out _).mono ?_; rintro e u ⟨rfl, rfl⟩
    go_wp2_with fail
    go_ret
    exact ⟨rfl, HG.out⟩
theorem graph21_c (p : Int) (hp : p ≤ 1000) (h0 : I64 p) (w : World) (hT : Tab w) : Calls Tryz.prog 152 #[.int .i64 p] w fun e w' => e = .returned (.string (gnB p)) ∧ Gr w w' := by
  unfold I64 at h0
  by_cases h : p < 0
  · have e : gnB p = ⟨#[]⟩ := by unfold gnB; rw [if_pos h]
    rw [e]
    clear e hT
    go_enter Tryz.func152, Tryz.ntmps152
    go_wp2_with fail
    go_ret
    exact ⟨rfl, Gr.refl _⟩
  · have h00 : 0 ≤ p := by omega
    have CI := Lib.hid (fun (u : World) (g : Gr w u) => itoa_c p (by omega) (by omega) u (hT.gr g))
    have hz : (digB p.toNat).length ≤ 1000001 := Nat.le_trans (digB_le (p.toNat + 1) _ (by omega)) (by omega)
    have e : gnB p = (⟨#[103, 114, 97, 112, 104, 46]⟩ : ByteArray) ++ bs (digB p.toNat) := by unfold gnB; rw [if_neg h, ← bs_app]; rfl
    rw [itoa_digB h00] at CI
    obtain ⟨d, hd⟩ : ∃ d, d = bs (digB p.toNat) := ⟨_, rfl⟩
    have hdz : d.size ≤ 1000001 := by rw [hd]; simpa [bs, ByteArray.size] using hz
    have e2 : gnB p = (⟨#[103, 114, 97, 112, 104, 46]⟩ : ByteArray) ++ d := by rw [e, hd]
    have E2 := Lib.hid e2
    rw [← hd] at CI
    clear hz e e2 hd hT
    go_enter Tryz.func152, Tryz.ntmps152
    go_wp2_with fail
    refine (CI.out _ (Gr.refl _)).mono ?_; rintro e u ⟨rfl, g⟩
    go_wp2_with fail
    go_ret
    rw [E2.out]
    exact ⟨rfl, g⟩
end Go.Proofs.YtignfbdgpgidpaaGreatDoor
