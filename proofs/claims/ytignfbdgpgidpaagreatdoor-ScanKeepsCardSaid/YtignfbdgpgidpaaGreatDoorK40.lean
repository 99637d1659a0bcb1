/- In one text: ScKl, ScKw, ScKx. -/
import Derived.Test.YtignfbdgpgidpaaGreatDoorK38
import Derived.Test.YtignfbdgpgidpaaGreatDoorK39
import Derived.Test.YtignfbdgpgidpaaGreatDoorK24
import Derived.Test.YtignfbdgpgidpaaGreatDoorK13
import Derived.Test.YtignfbdgpgidpaaGreatDoorK21
import Derived.Test.YtignfbdgpgidpaaGreatDoorK26
import Derived.Test.YtignfbdgpgidpaaGreatDoorK12
/- For ScanKeeps: the files of a step; Start and List at the law's disk. -/
namespace Go.Proofs.YtignfbdgpgidpaaGreatDoor
open Go.RowKit FsPlain CrcPlain OctPlain FramePlain RecPlain RdPlain MnPlain CmPlain RnPlain StPlain ScPlain
set_option linter.unusedVariables false
set_option linter.unusedSimpArgs false
set_option maxRecDepth 20000
namespace ScPlain
structure KF (st ps r : Int) (F : List Fl) : Prop where
  fit : fitP ⟨st, ps, F⟩ r = true
  mn : mnB ⟨st, ps, F⟩ = true
  few : F.length ≤ 2
  one : ∀ f ∈ F, rightB f.name.data.toList = true ∧ f.name.size ≤ 24 ∧ sizeB f.size = true ∧ f.count = 0 ∧ f.sum = 0 ∧ f.name.data.toList ≠ CmPlain.nameL ∧ f.name.data.toList ≠ wayL
  apart : F.Pairwise fun f g => f.name ≠ g.name
  sum : sumsB F
  st : I64 st
  ps : I64 ps
theorem newB_all : ∀ {l t : List Fl}, newB l t = true → (∀ f ∈ t, flB f = true) ∧ (∀ f ∈ t, ∀ g ∈ l, g.name ≠ f.name) ∧ t.Pairwise fun f g => f.name ≠ g.name
  | _, [], _ => ⟨(fun f h => by cases h), (fun f h => by cases h), List.Pairwise.nil⟩
  | l, f :: t, h => by
    unfold newB at h
    rw [Bool.and_eq_true, Bool.and_eq_true, List.all_eq_true] at h
    obtain ⟨⟨h1, h2⟩, h3⟩ := h
    obtain ⟨k1, k2, k3⟩ := newB_all h3
    refine ⟨fun g hg => ?_, fun g hg q hq => ?_, List.pairwise_cons.2 ⟨fun g hg => k2 g hg f (by simp), k3⟩⟩
    · rcases List.mem_cons.1 hg with rfl | hg
      · exact h1
      · exact k1 g hg
    · rcases List.mem_cons.1 hg with rfl | hg
      · simpa using h2 q hq
      · exact k2 g hg q (by simp [hq])
theorem gn_head (p : Int) (h : 0 ≤ p) : ∃ r, (gnB p).data.toList = 103 :: r := by
  unfold gnB
  rw [if_neg (by omega)]
  exact ⟨_, by rw [show (bs ([103, 114, 97, 112, 104, 46] ++ digB p.toNat)).data.toList = [103, 114, 97, 112, 104, 46] ++ digB p.toNat by simp [bs]]; rfl⟩
theorem files_off (s p : Int) (hp : 0 ≤ p) : ∀ f ∈ filesP s p, f.name.data.toList ≠ CmPlain.nameL ∧ f.name.data.toList ≠ wayL := by
  have hg : ∀ q : Int, 0 ≤ q → (gnB q).data.toList ≠ CmPlain.nameL ∧ (gnB q).data.toList ≠ wayL := by
    intro q hq
    obtain ⟨r, hr⟩ := gn_head q hq
    rw [hr]
    exact ⟨(fun e => by cases e), (fun e => by cases e)⟩
  intro f hf
  unfold filesP at hf
  split at hf
  · cases hf
  · (repeat' split at hf) <;> simp only [List.mem_cons, List.not_mem_nil, or_false] at hf
    · subst hf; decide
    · subst hf; decide
    · rcases hf with rfl | rfl
      · decide
      · exact hg 0 (by decide)
    · rcases hf with rfl | rfl
      · decide
      · exact hg p hp
    · rcases hf with rfl | rfl <;> decide
    · rcases hf with rfl | rfl <;> decide
theorem kf_of {s p r : Int} (h : rightP s p r = true) (h0 : s ≠ 0) (hs : I64 s) (hp : I64 p) : KF s p r (filesP s p) := by
  have hfit := fit_files h h0
  have hh := hfit
  unfold fitP at hh
  rw [Bool.and_eq_true] at hh
  have hm := hh.1
  have hm2 := hm
  unfold mnB at hm2
  rw [Bool.and_eq_true, decide_eq_true_iff] at hm2
  obtain ⟨⟨_, ⟨hp0, _⟩, _⟩, hn⟩ := hm2
  obtain ⟨k1, _, k3⟩ := newB_all hn
  refine ⟨hfit, hm, files_few s p, fun f hf => ?_, k3, fun f hf => ?_, hs, hp⟩
  · obtain ⟨j1, j2, j3, j4, j5⟩ := files_K s p f hf
    have hb := k1 f hf
    unfold flB at hb
    rw [Bool.and_eq_true] at hb
    obtain ⟨o1, o2⟩ := files_off s p hp0 f hf
    exact ⟨hb.1, j1, by unfold sizeB; rw [decide_eq_true_iff]; omega, j4, j5, o1, o2⟩
  · obtain ⟨_, _, _, _, j5⟩ := files_K s p f hf
    rw [j5]; omega
theorem lay_nil {size : Int} (h : sizeB size = true) : layB size [] = true ∧ (layL size []).length = 28 ∧ layR size [] = bs (layL size []) := by
  have hb : layB size [] = true := by unfold layB; rw [h]; rfl
  refine ⟨hb, ?_, layR_yes hb⟩
  have hz := h
  simp only [sizeB, decide_eq_true_eq] at hz
  obtain ⟨m, rfl⟩ : ∃ m : Nat, size = m := ⟨size.toNat, by omega⟩
  rw [layL_length hb]
  simp [cnt4]
def mnX (st ps : Int) (F : List Fl) : List UInt8 := (ptS ⟨st, ps, F⟩).data.toList
theorem KF.is {st ps r : Int} {F : List Fl} (h : KF st ps r F) : mnIs (bs (mnX st ps F)) ⟨st, ps, F⟩ := by
  refine ⟨h.mn, h.sum, ?_⟩
  unfold mnX ptS
  rw [if_pos h.mn, bs_toList]
end ScPlain
section
variable {M : List Asn} {w u : World} {p : Nat} {s : St} {F : List Fl} {st ps r : Int}
theorem kstart_c (h : Ps (DiskA p s :: M) w u) (hK : KSv s F (mnX st ps F)) (hc : s.calls ≤ 100000) (hF : KF st ps r F) (hT : Tab w) (hr : I64 r) :
    Calls Tryz.prog 23 #[.pointer (some ⟨p, 0, none⟩), .int .i64 r] u fun e w' => ∃ (a : Option Addr) (c : Nat) (t : St), e = .returned (.tuple #[.agg #[.int .i64 st, .int .i64 ps, .slice a F.length c], .int .i64 0]) ∧ KSv t F (mnX st ps F) ∧ t.fs = s.fs.filter (kept (keepL F)) ∧ t.calls ≤ s.calls + 400 ∧ Ps (DiskA p t :: (M ++ [FlA (.slice a F.length c) F])) w w' := by
  have hok : s.ok := by obtain ⟨_, k⟩ := h.part 0 rfl; exact k.1
  have hrt := hK.rt
  obtain ⟨y, y1, y2⟩ := hK.man
  have hle := load_some hK.calm y1
  rw [y2] at hle
  obtain ⟨T, t1, t2, t3, t4, t5, t6, t7⟩ := ksv_start hK hok.d hok.m (fun f hf => by
    obtain ⟨q1, q2, q3, q4, q5, _⟩ := hF.one f hf
    exact ⟨q1, (lay_nil q3).1, q4, q5⟩)
  refine (start22_c (m := ⟨st, ps, F⟩) (b := true) h hK.calm.1 hK.calm.2 (by omega) (fun x hx => ?_) (.inr ⟨mnX st ps F, by rw [hle], .inl ⟨rfl, hF.is, rfl⟩⟩) hr (fun _ => ⟨hF.fit, hT, fun f hf => ?_, hF.st, hF.ps⟩) ?_ ?_ hrt t6 T t1 t2 t5.calm.1 t5.calm.2 (by omega) t7).mono ?_
  · rw [hle] at hx
    cases hx
    exact pt_small ⟨st, ps, F⟩
  · obtain ⟨q1, q2, q3, q4, q5, _⟩ := hF.one f hf
    simp only [sizeB, decide_eq_true_eq] at q3
    refine ⟨by unfold maxLen; omega, by unfold I64; omega, by unfold I64; omega, by omega, by omega⟩
  · have := hF.few; show F.length ≤ 1000; omega
  · intro f hf
    have := (hF.one f hf).2.1
    omega
  · rintro e w' ⟨a, c, t, he, hq, hcl, hd⟩
    have hfew := hF.few
    have hcl : t.calls ≤ T.1.calls + 2 * (F.length : Int) := hcl
    exact ⟨a, c, t, he, t5.quiet hq, by rw [hq.fs]; exact t4, by omega, hd⟩
theorem klist_c (h : Ps (DiskA p s :: M) w u) (hK : ScPlain.Calm s) (hc : s.calls ≤ 1000000) :
    Calls Tryz.prog 24 #[.pointer (some ⟨p, 0, none⟩)] u fun e w' => ∃ (a : Option Addr) (c : Nat), e = .returned (.tuple #[.slice a (namesL s).length c, .int .i64 0]) ∧ Ps (DiskA p s.call :: (M ++ [SlA (.slice a (namesL s).length c) (namesL s)])) w w' := by
  obtain ⟨e1, e2⟩ := calm_list hK.1 hK.2
  have h := ps_list h (fr_disk p s.call) fun B1 q => plist_c p s u q (by omega)
  rw [e1, e2] at h
  exact h
end
namespace ScPlain
theorem kept_again {s t : St} {K : List ByteArray} (h : t.fs = s.fs.filter (kept K)) : t.fs.filter (kept K) = t.fs := by rw [h, List.filter_filter]; simp
theorem names_kept {s t : St} {K : List ByteArray} (h : t.fs = s.fs.filter (kept K)) : ∀ x ∈ namesL t, hasB K x = true := by
  intro x hx
  unfold namesL at hx
  obtain ⟨f, hf, rfl⟩ := List.mem_map.1 hx
  rw [h] at hf
  exact (List.mem_filter.1 hf).2
theorem find_mem : ∀ {F : List Fl} {f : Fl}, f ∈ F → (findF f.name F).isSome = true
  | g :: l, f, h => by
    unfold findF
    split
    · rfl
    · next hne =>
      rcases List.mem_cons.1 h with rfl | h
      · exact absurd rfl hne
      · exact find_mem h
theorem keep_cases {F : List Fl} {x : ByteArray} (h : hasB (keepL F) x = true) : (findF x F).isSome = true ∨ x = inB22 ∨ x = cfB22 ∨ x = mfB22 := by
  unfold hasB keepL at h
  rw [List.any_eq_true] at h
  obtain ⟨y, hy, e⟩ := h
  have e : y = x := by simpa using e
  subst e
  rcases List.mem_append.1 hy with hy | hy
  · simp only [List.mem_cons, List.not_mem_nil, or_false] at hy
    exact .inr hy
  · obtain ⟨f, hf, rfl⟩ := List.mem_map.1 hy
    refine .inl ?_
    exact find_mem hf
theorem sub_length {α : Type} [DecidableEq α] : ∀ {A B : List α}, A.Pairwise (fun x y => x ≠ y) → (∀ x ∈ A, x ∈ B) → A.length ≤ B.length
  | [], _, _, _ => Nat.zero_le _
  | a :: A, B, h, hs => by
    obtain ⟨h1, h2⟩ := List.pairwise_cons.1 h
    have ih := sub_length (A := A) (B := B.erase a) h2 fun x hx => (List.mem_erase_of_ne (fun e => h1 x hx e.symm)).2 (hs x (by simp [hx]))
    have := List.length_erase_of_mem (hs a (by simp))
    have hp : 0 < B.length := List.length_pos_of_mem (hs a (by simp))
    rw [List.length_cons]
    omega
theorem names_least {t : St} {F : List Fl} {x : List UInt8} {st ps r : Int} (h : KSv t F x) (hF : KF st ps r F) : F.length + 1 ≤ (namesL t).length := by
  have hh := sub_length (A := mfB22 :: F.map fun f => f.name) (B := namesL t) (List.pairwise_cons.2 ⟨fun y hy => ?_, List.pairwise_map.2 hF.apart⟩) (fun y hy => ?_)
  · rw [List.length_cons, List.length_map] at hh
    exact hh
  · obtain ⟨f, hf, rfl⟩ := List.mem_map.1 hy
    intro e
    exact (hF.one f hf).2.2.2.2.2.1 (by rw [← e]; rfl)
  · rcases List.mem_cons.1 hy with rfl | hy
    · obtain ⟨y, y1, _⟩ := h.man
      obtain ⟨m1, m2⟩ := mem_get y1
      unfold namesL
      exact List.mem_map.2 ⟨y, m1, by rw [m2]; rfl⟩
    · obtain ⟨f, hf, rfl⟩ := List.mem_map.1 hy
      obtain ⟨y, y1, _⟩ := h.files f hf
      obtain ⟨m1, m2⟩ := mem_get y1
      unfold namesL
      exact List.mem_map.2 ⟨y, m1, by rw [m2, bs_toList]⟩
end ScPlain
end Go.Proofs.YtignfbdgpgidpaaGreatDoor
/- For ScanKeeps: the parts of the law's world. -/
namespace Go.Proofs.YtignfbdgpgidpaaGreatDoor
open Go.RowKit Go.ChangeShapes Go.WideShapes Go.Deep FsPlain CrcPlain OctPlain FramePlain RecPlain RdPlain MnPlain CmPlain RnPlain StPlain ScPlain
set_option linter.unusedVariables false
set_option linter.unusedSimpArgs false
set_option maxRecDepth 20000
theorem step_in {w : World} {v : Value} (h : RdAgg Tryz.prog w 41 v) : ∃ st ps : Int, v = .agg #[.int .i64 st, .int .i64 ps] ∧ I64 st ∧ I64 ps := by
  obtain ⟨fs, cs, hu, rfl, hsz, hf⟩ := h
  rw [Tryz.underlying41] at hu
  simp only [Option.some.injEq, TypeDesc.struct.injEq] at hu
  subst hu
  obtain ⟨l⟩ := cs
  match l, hsz with
  | [c0, c1], _ =>
    obtain ⟨d0, e0, r0⟩ := hf 0 _ rfl
    obtain ⟨d1, e1, r1⟩ := hf 1 _ rfl
    simp at e0 e1
    subst e0 e1
    obtain ⟨n, rfl, hn⟩ := rd_int Tryz.underlying3 r0
    obtain ⟨k, rfl, hk⟩ := rd_int Tryz.underlying3 r1
    exact ⟨n, k, rfl, bounds_i64 hn, bounds_i64 hk⟩
def KL (p : Nat) (t : St) (zm : Nat) (st ps : Int) (v : Value) (l : List Fl) (fv : Value) (F : List Fl) : List Asn := [DiskA p t, Blk zm #[.int .i64 st, .int .i64 ps, v] 27, RowE 48 4 v l.length (fls l), FlA fv F]
def kcells (f : Fl) : Array Value := #[.string f.name, .int .i64 f.size, .int .i64 f.count, .int .u32 f.sum]
namespace ScPlain
def Onl (s : St) (l : List Fl) : Prop := ∀ k, (s.get k).isSome = true → ∃ f ∈ l, f.name.data.toList = k
theorem k1_next {st ps r : Int} {F : List Fl} {t : St} {i : Nat} (hF : KF st ps r F) (hi : i < F.length) (h : KSt t (F.take i) i) (ho : Onl t (F.take i)) :
    ∃ t1 t2, createR t F[i].name.data.toList = (t1, 0) ∧ appendR t1 F[i].name.data.toList (layL F[i].size []) = (t2, 0) ∧ KSt t2 (F.take (i + 1)) (i + 1) ∧ Onl t2 (F.take (i + 1)) := by
  have hfew := hF.few
  obtain ⟨q1, q2, q3, q4, q5, q6, q7⟩ := hF.one _ (List.getElem_mem hi)
  have hd : ∀ g ∈ F.take i, g.name.data.toList ≠ F[i].name.data.toList := by
    intro g hg e
    obtain ⟨j, hj, rfl⟩ := List.mem_iff_getElem.1 hg
    rw [List.length_take] at hj
    rw [List.getElem_take] at e
    exact List.pairwise_iff_getElem.1 hF.apart j i (by omega) hi (by omega) (ByteArray.ext (Array.toList_inj.1 e))
  have hg : t.get F[i].name.data.toList = none := by
    cases hg : t.get F[i].name.data.toList with
    | none => rfl
    | some y =>
      obtain ⟨g, hg1, hg2⟩ := ho _ (by rw [hg]; rfl)
      exact absurd hg2 (hd g hg1)
  obtain ⟨t1, t2, e1, e2, k1, k2⟩ := h.more F[i] q1 q6 q7 hg hd (by omega) (by rw [(lay_nil q3).2.1]; decide)
  have htk : F.take (i + 1) = F.take i ++ [F[i]] := List.take_succ_eq_append_getElem hi
  refine ⟨t1, t2, e1, e2, by rw [htk]; exact k1, fun k hk => ?_⟩
  rw [htk]
  by_cases e : k = F[i].name.data.toList
  · exact ⟨F[i], List.mem_append_right _ (List.mem_singleton.2 rfl), e.symm⟩
  · rw [k2 k e] at hk
    obtain ⟨f, hf, he⟩ := ho k hk
    exact ⟨f, List.mem_append_left _ hf, he⟩
end ScPlain
section
variable {M : List Asn} {p zm z : Nat} {t t1 : St} {st ps : Int} {v : Value} {l F : List Fl} {fv : Value} {w u : World} {f : Fl}
theorem knew_c (h : Ps M w u) : Calls Tryz.prog 16 #[.int .i64 1048576] u fun e w' => ∃ p, e = .returned (.tuple #[.pointer (some ⟨p, 0, none⟩), .int .i64 0]) ∧ Ps (DiskA p (fresh 1048576) :: M) w w' :=
  (new_c 1048576 (by decide) (by decide) u).mono fun e w' ⟨p, B, he, hd, hg, hb⟩ => ⟨p, he, Qs.new h hg (fr_disk _ _) hd hb⟩
theorem kl_app {v' : Value} {w2 : World} {o : Obj} (h : Ps (Blk z (kcells f) 48 :: KL p t zm st ps v l fv F) w u) (hown : w2.ownsRow 0 48 4 v' (l.length + 1) (fls l ++ flc f)) (hg : (u.alloc o).grownBy w2 v.ownBlock) (hat : v'.ownBlock = v.ownBlock ∨ v'.ownBlock = some (u.alloc o).heap.size) :
    w2.cell? ⟨zm, 2, none⟩ = some v ∧ w2.frozen? ⟨zm, 2, none⟩ = false ∧ Ps (Blk z (kcells f) 48 :: KL p t zm st ps v' (l ++ [f]) fv F) w (w2.setCell ⟨zm, 2, none⟩ v') := by
  obtain ⟨hF, B, k, n⟩ := h
  obtain ⟨B', k', n'⟩ := step_at (Q := RowE 48 4 v' (l ++ [f]).length (fls (l ++ [f]))) 3 rfl hF k fun B1 hb => by
    have := rowE_next hb (gr22 u o) (by exact hown) hg hat
    rw [List.length_append, List.length_singleton, fls_snoc]
    exact this
  have h2 : Ps [Blk z (kcells f) 48, DiskA p t, Blk zm #[.int .i64 st, .int .i64 ps, v] 27, RowE 48 4 v' (l ++ [f]).length (fls (l ++ [f])), FlA fv F] w w2 := ⟨frs_set (fr_rowE _ _ _ _ _) 3 hF, B', k', n.trans n'⟩
  have hb := h2.blk 2 rfl
  exact ⟨by rw [cells_at hb]; rfl, cells_free hb 2, h2.set 2 rfl 2 v'⟩
theorem kl_create (h : Ps (DiskA p t :: Blk z (kcells f) 48 :: M) w u) (hn : f.name.size ≤ 24) (hm : rightB f.name.data.toList = true) (hc : t.calls ≤ 100000) (e : createR t f.name.data.toList = (t1, 0)) :
    Calls Tryz.prog 19 #[.pointer (some ⟨p, 0, none⟩), .string f.name] u fun e w' => e = .returned (.int .i64 0) ∧ Ps (DiskA p t1 :: Blk z (kcells f) 48 :: M) w w' :=
  Qs.call0 (X := fun e _ => e = .returned (.int .i64 0)) h (fr_disk _ _) fun B1 k => by
    have C := d_create p t f.name (by omega) hm (by omega) u B1 k
    rw [e] at C
    exact C
theorem kl_append (h : Ps (DiskA p t :: Blk z (kcells f) 48 :: M) w u) (hn : f.name.size ≤ 24) (hm : rightB f.name.data.toList = true) (hc : t.calls ≤ 100000) (hs : sizeB f.size = true) (e : appendR t f.name.data.toList (layL f.size []) = (t1, 0)) :
    Calls Tryz.prog 20 #[.pointer (some ⟨p, 0, none⟩), .string f.name, .string (layR f.size [])] u fun e w' => e = .returned (.int .i64 0) ∧ Ps (DiskA p t1 :: Blk z (kcells f) 48 :: M) w w' :=
  Qs.call0 (X := fun e _ => e = .returned (.int .i64 0)) h (fr_disk _ _) fun B1 k => by
    obtain ⟨_, h2, h3⟩ := lay_nil hs
    rw [h3]
    have C := d_append p t f.name (bs (layL f.size [])) (by omega) hm (by omega) (by rw [bs_size, h2]; decide) u B1 k
    rw [bs_data, e] at C
    exact C
theorem kl_any (h : Ps (DiskA p t :: M) w u) (n : ByteArray) (hn : n.size ≤ 1000) (hc : t.calls ≤ 100000) :
    Calls Tryz.prog 19 #[.pointer (some ⟨p, 0, none⟩), .string n] u fun e w' => e = .returned (.int .i64 (createX t n.data.toList).2) ∧ Ps (DiskA p (createX t n.data.toList).1 :: M) w w' :=
  Qs.call0 (X := fun e _ => e = .returned (.int .i64 (createX t n.data.toList).2)) h (fr_disk _ _) fun B1 k => d_createX p t n hn (by omega) u B1 k
end
def K1At (p zm : Nat) (st ps : Int) (F : List Fl) (fv : Value) (w : World) (vi : Value) (wr : World) : Prop := ∃ (i : Nat) (v : Value) (t : St), i ≤ F.length ∧ vi = .int .i64 (i : Int) ∧ KSt t (F.take i) i ∧ Onl t (F.take i) ∧ Ps (KL p t zm st ps v (F.take i) fv F) w wr
def K2At (p zm : Nat) (st ps : Int) (F : List Fl) (fv v : Value) (m : Nat) (w : World) (vi : Value) (wr : World) : Prop := ∃ (j : Nat) (t : St), j ≤ m ∧ vi = .int .i64 (j : Int) ∧ KSt t F (F.length + j) ∧ Ps (KL p t zm st ps v F fv F) w wr
end Go.Proofs.YtignfbdgpgidpaaGreatDoor
/- For ScanKeeps: Save, Find at the law's world. -/
namespace Go.Proofs.YtignfbdgpgidpaaGreatDoor
open Go.RowKit FsPlain CrcPlain OctPlain FramePlain RecPlain RdPlain MnPlain CmPlain RnPlain StPlain ScPlain
set_option linter.unusedVariables false
set_option linter.unusedSimpArgs false
set_option maxRecDepth 20000
namespace ScPlain
theorem KSt.skip {s : St} {l : List Fl} {n : Nat} (h : KSt s l n) : KSt s l (n + 1) :=
  ⟨h.calm, h.room, h.rt, h.man, h.way, h.files, by have := h.len; omega, h.small, by have := h.calls; omega⟩
theorem KF.flK {st ps r : Int} {F : List Fl} (h : KF st ps r F) : ∀ f ∈ F, flK f := by
  intro f hf
  obtain ⟨q1, q2, q3, q4, q5, _⟩ := h.one f hf
  simp only [sizeB, decide_eq_true_eq] at q3
  refine ⟨by unfold maxLen; omega, by unfold I64; omega, by unfold I64; omega, by omega, by omega⟩
end ScPlain
theorem ksave_c {M : List Asn} {w u : World} {p : Nat} {s : St} {F : List Fl} {st ps r : Int} {n c : Nat} {a : Option Addr} {k : Nat} (h : Ps (DiskA p s :: M) w u) (hK : KSt s F k) (hk : k < 100) (hF : KF st ps r F) (hl : LiesFl u (.slice a n c) F) :
    Calls Tryz.prog 22 #[.pointer (some ⟨p, 0, none⟩), .agg #[.int .i64 st, .int .i64 ps, .slice a n c]] u fun e w' => ∃ s', e = .returned (.int .i64 0) ∧ KSv s' F (mnX st ps F) ∧ s'.calls ≤ 1000 ∧ Ps (DiskA p s' :: M) w w' := by
  have hc := hK.calls
  have hfew := hF.few
  obtain ⟨t, e, h1, h2⟩ := hK.save hk (mnX st ps F) (pt_small ⟨st, ps, F⟩) fun f hf => (hF.one f hf).2.2.2.2.2
  have es : saveR s ⟨st, ps, F⟩ = (t, 0) := by
    unfold saveR
    rw [if_pos hF.mn]
    exact e
  refine (pd_save (m := ⟨st, ps, F⟩) h (by omega) hl (by show F.length ≤ maxLen; unfold maxLen; omega) hF.flK).mono ?_
  rw [es]
  rintro e' w' ⟨he, hd⟩
  exact ⟨t, he, h1, by omega, hd⟩
theorem fl_z22 {u w : World} (g : Gr (u.alloc (.cells #[.string ⟨#[]⟩, .int .i64 0, .int .i64 0, .int .u32 0] 48)) w) : w.heap[u.heap.size]? = some (.cells #[.string ⟨#[]⟩, .int .i64 0, .int .i64 0, .int .u32 0] 48 (0, 0)) := (Below.block g _ (by simp)).trans (heap_alloc_new u _)
theorem fl_z22d {u w : World} (g : Gr (u.alloc (.cells #[.string ⟨#[]⟩, .int .i64 0, .int .i64 0, .int .u32 0] 48)).drew w) : w.heap[u.heap.size]? = some (.cells #[.string ⟨#[]⟩, .int .i64 0, .int .i64 0, .int .u32 0] 48 (0, 0)) := fl_z22 (Gr.ofDrew g)
theorem fl_zs22 {w : World} {q : Nat} (h : w.heap[q]? = some (.cells #[.string ⟨#[]⟩, .int .i64 0, .int .i64 0, .int .u32 0] 48 (0, 0))) : (w.cell? ⟨q, 0, none⟩ = some (.string ⟨#[]⟩) ∧ w.cell? ⟨q, 1, none⟩ = some (.int .i64 0) ∧ w.cell? ⟨q, 2, none⟩ = some (.int .i64 0) ∧ w.cell? ⟨q, 3, none⟩ = some (.int .u32 0)) ∧ w.frozen? ⟨q, 0, none⟩ = false ∧ w.frozen? ⟨q, 1, none⟩ = false ∧ w.frozen? ⟨q, 2, none⟩ = false ∧ w.frozen? ⟨q, 3, none⟩ = false :=
  ⟨⟨by rw [cells_at h]; rfl, by rw [cells_at h]; rfl, by rw [cells_at h]; rfl, by rw [cells_at h]; rfl⟩, cells_free h 0, cells_free h 1, cells_free h 2, cells_free h 3⟩
theorem kfind_c (st ps : Int) (a : Option Addr) (n c : Nat) (l : List Fl) (nm : ByteArray) (w : World) (h : LiesFl w (.slice a n c) l) (hl : l.length ≤ maxLen) (b : Bool) (hb : (findF nm l).isSome = b) :
    Calls Tryz.prog 27 #[.agg #[.int .i64 st, .int .i64 ps, .slice a n c], .string nm] w fun e w' => ∃ g : Fl, e = .returned (.tuple #[.agg #[.string g.name, .int .i64 g.size, .int .i64 g.count, .int .u32 g.sum], .bool b]) ∧ Gr w w' :=
  (rfind_c st ps a n c l nm w h hl).mono fun e w' ⟨he, g⟩ => ⟨(findF nm l).getD flZ, by rw [he, hb]; rfl, g⟩
theorem str_lit22 {x : ByteArray} {l : List UInt8} (y : ByteArray) (hy : y.data.toList = l) : (x.toList == l) = decide (x = y) := by
  subst hy
  rw [← Lib.toList_data y]
  exact str_eq22 x y
end Go.Proofs.YtignfbdgpgidpaaGreatDoor
