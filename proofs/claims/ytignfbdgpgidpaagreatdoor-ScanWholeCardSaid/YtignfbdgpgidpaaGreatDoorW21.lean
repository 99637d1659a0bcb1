/- In one text: RdRead, Stands, RdRead2, RdInv. -/
import Derived.Test.YtignfbdgpgidpaaGreatDoorW20
import Derived.Test.YtignfbdgpgidpaaGreatDoorW00
/- Plain facts: what a reader reads of a file, where no call fails. -/
namespace Go.Proofs.YtignfbdgpgidpaaGreatDoor
open Go.RowKit FsPlain CrcPlain OctPlain FramePlain RecPlain
set_option linter.unusedVariables false
set_option linter.unusedSimpArgs false
set_option maxRecDepth 20000
namespace RdPlain
theorem get_of {size : Int} {s : ByteArray} {l : List ByteArray} {more : List UInt8} (hb : blkB size l = true) (h : s.data.toList = (cl (blk l)).data.toList ++ more) : gB size s = true ∧ gL size s = l ∧ gN size s = (cl (blk l)).size := by
  have e : s = cl (blk l) ++ bs more := ext_toList (by rw [app_data, bs_data, h])
  rw [e]
  obtain ⟨h1, h2, h3⟩ := get_put hb (bs more)
  exact ⟨h1, h3, h2⟩
theorem get_head {size : Int} {s : ByteArray} (h : gB size s = true) : ∃ more, s.data.toList = (cl (blk (gL size s))).data.toList ++ more ∧ blkB size (gL size s) = true ∧ gN size s = (cl (blk (gL size s))).size := by
  obtain ⟨n, h1, h2, h3, h4⟩ := RecPlain.get_split h
  obtain ⟨hb, _⟩ := get_is h
  exact ⟨_, h4, hb, (get_of hb h4).2.2⟩
theorem blk_room {size : Int} {l : List ByteArray} (h : blkB size l = true) : (((cl (blk l)).size : Nat) : Int) ≤ roomN size := by
  obtain ⟨h1, ⟨h2, h3⟩, h4⟩ := blk_parts h
  obtain ⟨n, e1, _, _, e2, _⟩ := blk_cl h
  have hs : 1 ≤ size ∧ size ≤ 64 := by simpa [sizeB] using h1
  have hr : roomN size = 5 + 4 * size := by unfold roomN; rw [if_pos h1]
  rw [e1, hr, ← e2]
  have : (l.length : Int) * size ≤ 4 * size := Int.mul_le_mul_of_nonneg_right (by omega) (by omega)
  omega
theorem take_get {size : Int} {t r : ByteArray} {k : Nat} (hk : roomN size ≤ (k : Int)) (ht : t.data.toList = r.data.toList.take k) : gB size t = gB size r ∧ gL size t = gL size r ∧ gN size t = gN size r := by
  cases hg : gB size r
  · cases hg2 : gB size t
    · rw [gL_no hg, gL_no hg2, gN_no hg, gN_no hg2]; exact ⟨rfl, rfl, rfl⟩
    · obtain ⟨m1, e1, hb, _⟩ := get_head hg2
      have e : r.data.toList = (cl (blk (gL size t))).data.toList ++ (m1 ++ r.data.toList.drop k) := by
        conv => lhs; rw [← List.take_append_drop k r.data.toList]
        rw [← ht, e1, List.append_assoc]
      have := (get_of hb e).1
      rw [hg] at this; cases this
  · obtain ⟨m2, e2, hb, hn⟩ := get_head hg
    have hl := blk_room hb
    have hlen : (cl (blk (gL size r))).data.toList.length ≤ k := by rw [show (cl (blk (gL size r))).data.toList.length = (cl (blk (gL size r))).size from Array.length_toList]; omega
    have e : t.data.toList = (cl (blk (gL size r))).data.toList ++ m2.take (k - (cl (blk (gL size r))).data.toList.length) := by
      rw [ht, e2, List.take_append, List.take_of_length_le hlen]
    obtain ⟨a1, a2, a3⟩ := get_of hb e
    exact ⟨a1, a2, a3.trans hn.symm⟩
structure At (m : N3) (D : ByteArray) (ps : List (List ByteArray)) (r : ByteArray) : Prop where
  get : ∃ f, m.s.get m.x.nm.data.toList = some f ∧ f.data = D.data.toList
  down : m.s.down = false
  ahead : m.s.ahead = -1
  sz : sizeB m.x.size = true
  all : D.data.toList = (headS m.x.size).data.toList ++ (blks ps ++ r.data.toList)
  pos : m.x.pos = 11 + (blks ps).length
  left : m.x.left = r.size
  bls : ∀ p ∈ ps, blkB m.x.size p = true
  full : Full ps
  short : m.x.short = true → ∃ p, ps.getLast? = some p ∧ p.length < 4
  long : m.x.short = false → ∀ p ∈ ps, p.length = 4
  flat : m.x.all = ps.flatten
theorem headS_len (size : Int) : (headS size).data.toList.length = 11 := by rw [show (headS size).data.toList.length = (headS size).size from Array.length_toList, headS_size]
theorem At.read {m : N3} {D : ByteArray} {ps : List (List ByteArray)} {r : ByteArray} (h : At m D ps r) : errN m = 0 ∧ (bytesN m).data.toList = r.data.toList.take (askN m.x) := by
  obtain ⟨f, hf, hd⟩ := h.get
  have hc : m.s.call.down = false := by unfold St.call; simp [h.down, h.ahead]
  have hlen : f.data.length = m.x.pos + m.x.left := by
    rw [hd, h.all, h.pos, h.left, List.length_append, List.length_append, headS_len, show r.data.toList.length = r.size from Array.length_toList]; omega
  have ha := ask_left m.x
  unfold errN bytesN
  unfold readR
  rw [if_neg (by rw [hc]; decide), hf]
  simp only []
  rw [if_neg (by omega)]
  refine ⟨rfl, ?_⟩
  rw [bs_data, hd, h.all, h.pos, List.drop_append, List.drop_of_length_le (by rw [headS_len]; omega), List.nil_append, headS_len]
  rw [show 11 + (blks ps).length - 11 = (blks ps).length by omega, List.drop_left]
theorem At.popped {m : N3} {D : ByteArray} {ps : List (List ByteArray)} {r : ByteArray} (h : At m D ps r) : At m.popped D ps r := ⟨h.get, h.down, h.ahead, h.sz, h.all, h.pos, h.left, h.bls, h.full, h.short, h.long, h.flat⟩
theorem At.ask {m : N3} {D : ByteArray} {ps : List (List ByteArray)} {r : ByteArray} (h : At m D ps r) : askN m.x = r.size ∨ roomN m.x.size ≤ (askN m.x : Nat) ∧ 17 ≤ askN m.x := by
  have hs : 1 ≤ m.x.size ∧ m.x.size ≤ 64 := by simpa [sizeB] using h.sz
  have hr : roomN m.x.size = 5 + 4 * m.x.size := by unfold roomN; rw [if_pos h.sz]
  have hl := h.left
  unfold askN
  rw [hr]
  omega
theorem At.got {m : N3} {D : ByteArray} {ps : List (List ByteArray)} {r : ByteArray} (h : At m D ps r) : gB m.x.size (bytesN m) = gB m.x.size r ∧ gL m.x.size (bytesN m) = gL m.x.size r ∧ gN m.x.size (bytesN m) = gN m.x.size r := by
  obtain ⟨_, hb⟩ := h.read
  rcases h.ask with ha | ha
  · have : bytesN m = r := ext_toList (by rw [hb, ha, List.take_of_length_le (by rw [data_length]; omega)])
    rw [this]; exact ⟨rfl, rfl, rfl⟩
  · exact take_get ha.1 hb
theorem At.ends {m : N3} {D : ByteArray} {ps : List (List ByteArray)} {r : ByteArray} (h : At m D ps r) (hl : m.x.all.length ≤ 1000000) : isEnd m.x (bytesN m) ↔ tailB m.x.all r = true := by
  obtain ⟨_, hb⟩ := h.read
  have hg := h.got.1
  have hlen : (bytesN m).size = min (askN m.x) r.size := by rw [← data_length, hb, List.length_take, data_length]
  have hle : askN m.x ≤ r.size := by have := ask_left m.x; rw [h.left] at this; exact this
  constructor
  · rintro ⟨h1, h2, h3, h4, h5⟩
    have : bytesN m = r := ext_toList (by rw [hb, List.take_of_length_le (by rw [data_length]; have := h.left; omega)])
    rw [this] at h2 h4 h5
    unfold tailB
    simp [h2, h4, h5]
  · intro ht
    have he := (tail_iff hl r).1 ht
    have h17 : r.size = 17 := by rw [← data_length, he, endL_length]
    have hask : askN m.x = r.size := by
      rcases h.ask with ha | ha
      · exact ha
      · omega
    have hr : bytesN m = r := ext_toList (by rw [hb, hask, List.take_of_length_le (by rw [data_length]; omega)])
    have ht2 := ht
    unfold tailB at ht2
    simp only [Bool.and_eq_true, decide_eq_true_eq] at ht2
    obtain ⟨⟨e1, e2⟩, e3⟩ := ht2
    have hc : cntN r = 0 := by
      unfold eB at e1
      simp only [Bool.and_eq_true, decide_eq_true_eq] at e1
      exact e1.1.1.2
    have hgb : gB m.x.size r = false := by
      unfold gB
      rw [hc]; simp
    exact ⟨by rw [hr]; exact hgb, by rw [hr]; exact e1, by rw [hr, h.left], by rw [hr]; exact e2, by rw [hr]; exact e3⟩
theorem At.file {m : N3} {D : ByteArray} {ps : List (List ByteArray)} {r : ByteArray} (h : At m D ps r) (hl : m.x.all.length ≤ 1000000) (ht : tailB m.x.all r = true) : IsFile m.x.size D m.x.all := by
  rw [h.flat] at hl ht ⊢
  exact file_of h.sz h.bls h.full h.all hl ht
theorem At.none {m : N3} {D : ByteArray} {ps : List (List ByteArray)} {r : ByteArray} (h : At m D ps r) (hl : m.x.all.length ≤ 1000000) (hs : gB m.x.size r = false ∨ m.x.short = true) (ht : ¬ tailB m.x.all r = true) (L : List ByteArray) : ¬ IsFile m.x.size D L := by
  intro hi
  have hstop : gB m.x.size r = false ∨ ∃ p, ps.getLast? = some p ∧ p.length < 4 := hs.imp id h.short
  obtain ⟨e1, e2⟩ := file_not h.bls h.all hstop hi
  refine ht ((tail_iff hl r).2 ?_)
  rw [h.flat, e1]; exact e2
theorem At.block {m : N3} {D : ByteArray} {ps : List (List ByteArray)} {r : ByteArray} (h : At m D ps r) (hg : gB m.x.size r = true) (hsh : m.x.short = false) : ∃ r', At (m.asked.filled (bytesN m)) D (ps ++ [gL m.x.size r]) r' := by
  obtain ⟨g1, g2, g3⟩ := h.got
  obtain ⟨more, e1, hb, hn⟩ := get_head hg
  have hlong := h.long hsh
  have hc : m.s.call.down = false := by unfold St.call; simp [h.down, h.ahead]
  have hca : m.s.call.ahead = -1 := by show max (m.s.ahead - 1) (-1) = -1; rw [h.ahead]; decide
  have hk : blks (ps ++ [gL m.x.size r]) = blks ps ++ (cl (blk (gL m.x.size r))).data.toList := by rw [blks_app]; simp [blks]
  have hsz : (gN m.x.size r).toNat = (cl (blk (gL m.x.size r))).size := by rw [hn]; rfl
  have hp := blk_parts hb
  refine ⟨bs more, h.get, hc, hca, h.sz, ?_, ?_, ?_, ?_, ?_, ?_, ?_, ?_⟩
  · rw [h.all, hk, e1, bs_data]; simp only [List.append_assoc]; rfl
  · show m.x.pos + (gN m.x.size (bytesN m)).toNat = _
    rw [g3, hsz, hk, List.length_append, h.pos, data_length]; omega
  · show m.x.left - (gN m.x.size (bytesN m)).toNat = _
    have : r.size = (cl (blk (gL m.x.size r))).size + more.length := by rw [← data_length, e1, List.length_append, data_length]
    rw [g3, hsz, h.left, bs_size]; omega
  · intro p hpm
    rcases List.mem_append.1 hpm with hpm | hpm
    · exact h.bls p hpm
    · rw [List.mem_singleton.1 hpm]; exact hb
  · intro j p hj hj2
    rw [List.length_append, List.length_singleton] at hj2
    rw [List.getElem?_append_left (by omega)] at hj
    exact hlong p (List.mem_of_getElem? hj)
  · intro hs
    have hs' : decide ((gL m.x.size (bytesN m)).length < 4) = true := hs
    rw [g2, decide_eq_true_iff] at hs'
    exact ⟨_, by simp, hs'⟩
  · intro hs p hpm
    have hs' : decide ((gL m.x.size (bytesN m)).length < 4) = false := hs
    rw [g2, decide_eq_false_iff_not] at hs'
    rcases List.mem_append.1 hpm with hpm | hpm
    · exact hlong p hpm
    · rw [List.mem_singleton.1 hpm]; have := hp.2.1; omega
  · show m.x.all ++ gL m.x.size (bytesN m) = _
    rw [g2, h.flat]; simp
end RdPlain
end Go.Proofs.YtignfbdgpgidpaaGreatDoor
/- A disk that does not fail, with a file of these bytes: what its calls answer. -/
namespace Go.Proofs.YtignfbdgpgidpaaGreatDoor
set_option linter.unusedVariables false
namespace FsPlain
structure Stands (s : St) (n : List UInt8) (D : ByteArray) : Prop where
  get : ∃ f, s.get n = some f ∧ f.data = D.data.toList
  down : s.down = false
  ahead : s.ahead = -1
theorem Stands.call {s : St} {n : List UInt8} {D : ByteArray} (h : Stands s n D) : Stands s.call n D ∧ s.call.down = false := by
  have hc : s.call.down = false := by unfold St.call; simp [h.down, h.ahead]
  exact ⟨⟨h.get, hc, by show max (s.ahead - 1) (-1) = -1; rw [h.ahead]; decide⟩, hc⟩
theorem Stands.size {s : St} {n : List UInt8} {D : ByteArray} (h : Stands s n D) : sizeR s n = ((D.size : Int), 0) := by
  obtain ⟨f, hf, hd⟩ := h.get
  unfold sizeR
  rw [if_neg (by rw [h.call.2]; decide), hf]
  simp only [hd, Array.length_toList]
  rfl
theorem Stands.readAt {s : St} {n : List UInt8} {D : ByteArray} (h : Stands s n D) (i k : Nat) (hk : i + k ≤ D.size) : readR s n i k = ((D.data.toList.drop i).take k, 0) := by
  obtain ⟨f, hf, hd⟩ := h.get
  unfold readR
  rw [if_neg (by rw [h.call.2]; decide), hf]
  simp only [hd]
  rw [if_neg (by rw [Array.length_toList]; show ¬ D.size < _; omega)]
theorem Stands.read {s : St} {n : List UInt8} {D : ByteArray} (h : Stands s n D) (k : Nat) (hk : k ≤ D.size) : readR s n 0 k = (D.data.toList.take k, 0) := by
  rw [h.readAt 0 k (by omega)]
  simp
end FsPlain
end Go.Proofs.YtignfbdgpgidpaaGreatDoor
/- Plain facts: a reader that is opened over a file, where no call fails; how many records it can tell. -/
namespace Go.Proofs.YtignfbdgpgidpaaGreatDoor
open Go.RowKit FsPlain CrcPlain OctPlain FramePlain RecPlain
set_option linter.unusedVariables false
set_option linter.unusedSimpArgs false
set_option maxRecDepth 20000
namespace RdPlain
theorem heads_all : (List.range 65).all (fun n => decide (n = 0) || (ghB (headS (n : Int)) && decide (ghN (headS (n : Int)) = (n : Int)))) = true := by kernel_rfl
theorem head_told {size : Int} (h : sizeB size = true) : ghB (headS size) = true ∧ ghN (headS size) = size := by
  have hs : 1 ≤ size ∧ size ≤ 64 := by simpa [sizeB] using h
  obtain ⟨n, rfl⟩ : ∃ n : Nat, size = n := ⟨size.toNat, by omega⟩
  have := List.all_eq_true.1 heads_all n (List.mem_range.2 (by omega))
  simp only [Bool.or_eq_true, Bool.and_eq_true, decide_eq_true_eq] at this
  rcases this with h0 | h0
  · omega
  · exact h0
theorem told_head {t : ByteArray} {size : Int} (h : sizeB size = true) (h1 : ghB t = true) (h2 : ghN t = size) : t = headS size := by
  have hk : ghK t = size := by unfold ghN at h2; rw [if_pos h1] at h2; exact h2
  unfold ghB at h1
  simp only [Bool.and_eq_true, decide_eq_true_eq] at h1
  rw [hk, headR_yes h] at h1
  exact h1.2.symm
theorem file_begins {size : Int} {D : ByteArray} {L : List ByteArray} (h : IsFile size D L) : D.data.toList = (headS size).data.toList ++ (blks (ups L (cnt4 L)) ++ endL L) := h.2
theorem file_len {size : Int} {D : ByteArray} {L : List ByteArray} (h : IsFile size D L) : 28 ≤ D.size := by
  have := congrArg List.length (file_begins h)
  rw [data_length, List.length_append, List.length_append, headS_len, endL_length] at this
  omega
theorem open_at {s : St} {b : Bu} {nm : ByteArray} {size : Int} {D : ByteArray} (h : Stands s nm.data.toList D) (hz : sizeB size = true) (hb : b.takeE 4 = 0) :
    ((openN s b nm size).2.2.1 = 0 ∧ ∃ r, At ⟨(openN s b nm size).1, (openN s b nm size).2.1, newRs nm size (openN s b nm size).2.2.2⟩ D [] r) ∨
    ((openN s b nm size).2.2.1 = 6 ∧ (∀ L, ¬ IsFile size D L) ∧ (openN s b nm size).2.1 = (b.take 4).give 4) := by
  have e1 := h.size
  by_cases h11 : D.size < 11
  · right
    have e : openN s b nm size = (s.call, (b.take 4).give 4, 6, 0) := by
      unfold openN
      rw [if_neg (by rw [hz]; decide), if_neg (by rw [hb]; decide), e1, if_neg (by simp), if_pos (by simp only []; omega)]
    rw [e]
    refine ⟨rfl, fun L hi => ?_, rfl⟩
    have := (file_len hi); omega
  · have e2 := h.call.1.read 11 (by omega)
    have e : openN s b nm size = if ¬ (ghB (bs (D.data.toList.take 11)) = true ∧ ghN (bs (D.data.toList.take 11)) = size) then (s.call.call, (b.take 4).give 4, 6, 0) else (s.call.call, b.take 4, 0, D.size - 11) := by
      unfold openN
      rw [if_neg (by rw [hz]; decide), if_neg (by rw [hb]; decide), e1, if_neg (by simp), if_neg (by simp only []; omega), e2, if_neg (by simp)]
      simp only [Int.toNat_natCast]
    by_cases hh : ghB (bs (D.data.toList.take 11)) = true ∧ ghN (bs (D.data.toList.take 11)) = size
    · left
      rw [if_neg (by simpa using hh)] at e
      have ht := told_head hz hh.1 hh.2
      have hd : D.data.toList = (headS size).data.toList ++ D.data.toList.drop 11 := by
        rw [← ht, bs_data, List.take_append_drop]
      rw [e]
      refine ⟨rfl, bs (D.data.toList.drop 11), ?_⟩
      obtain ⟨c1, _⟩ := h.call.1.call
      refine ⟨c1.get, c1.down, c1.ahead, hz, by rw [bs_data]; exact hd, rfl, ?_, (fun p hp => by cases hp), (fun j p hj => by simp at hj), (fun hs => by cases hs), (fun _ p hp => by cases hp), rfl⟩
      show D.size - 11 = _
      rw [bs_size, List.length_drop, data_length]
    · right
      rw [if_pos hh] at e
      rw [e]
      refine ⟨rfl, fun L hi => hh ?_, rfl⟩
      have hd := file_begins hi
      have ht : bs (D.data.toList.take 11) = headS size := by
        rw [hd, List.take_append_of_le_length (by rw [headS_len]; omega), List.take_of_length_le (by rw [headS_len]; omega)]
        exact bs_toList _
      rw [ht]; exact head_told hz
theorem blks_len {size : Int} : ∀ {ps : List (List ByteArray)}, (∀ p ∈ ps, blkB size p = true) → ps.flatten.length ≤ (blks ps).length
  | [], _ => by simp [blks]
  | p :: ps, h => by
    have ih := blks_len (ps := ps) fun q hq => h q (List.mem_cons_of_mem _ hq)
    obtain ⟨n, e1, _, _, e2, _⟩ := blk_cl (h p (by simp))
    obtain ⟨h1, _, _⟩ := blk_parts (h p (by simp))
    have hs : 1 ≤ size ∧ size ≤ 64 := by simpa [sizeB] using h1
    rw [blks_cons, List.flatten_cons, List.length_append, List.length_append, data_length, e1]
    have : (p.length : Int) * 1 ≤ p.length * size := Int.mul_le_mul_of_nonneg_left (by omega) (by omega)
    omega
theorem At.few {m : N3} {D : ByteArray} {ps : List (List ByteArray)} {r : ByteArray} (h : At m D ps r) : m.x.all.length + 11 ≤ D.size := by
  have h1 := blks_len h.bls
  have h2 := congrArg List.length h.all
  rw [data_length, List.length_append, List.length_append, headS_len] at h2
  rw [h.flat]; omega
theorem At.start {m : N3} {D : ByteArray} {ps : List (List ByteArray)} {r : ByteArray} {L : List ByteArray} (h : At m D ps r) (hi : IsFile m.x.size D L) : m.x.all.length ≤ L.length := by
  have h1 := h.all
  rw [file_begins hi] at h1
  have h2 := List.append_cancel_left h1
  obtain ⟨cs, c1, _⟩ := blks_pre _ _ _ _ h.bls (ups_blk hi.1) (endL_cons L) h2.symm
  have := congrArg List.length (congrArg List.flatten c1)
  rw [ups_all, List.flatten_append, List.length_append] at this
  rw [h.flat]; omega
end RdPlain
end Go.Proofs.YtignfbdgpgidpaaGreatDoor
/- Plain facts: what is told of a reader, open or shut. -/
namespace Go.Proofs.YtignfbdgpgidpaaGreatDoor
open Go.RowKit FsPlain CrcPlain OctPlain FramePlain RecPlain
set_option linter.unusedVariables false
set_option linter.unusedSimpArgs false
set_option maxRecDepth 20000
namespace RdPlain
structure N3.inv (m : N3) : Prop where
  o : m.x.opn = true → m.x.bad = false ∧ m.x.whole = false
  c : m.x.opn = false → m.x.whole = !m.x.bad
  e0 : m.x.whole = false → m.x.ec = 0 ∧ m.x.em = 0
  e1 : m.x.whole = true → m.x.ec = (m.x.told : Nat) ∧ m.x.em = (sumN m.x.all : Nat)
theorem inv_new (s : St) (b : Bu) (nm : ByteArray) (size : Int) (left : Nat) : N3.inv ⟨s, b, newRs nm size left⟩ := ⟨fun _ => ⟨rfl, rfl⟩, (fun h => by cases h), fun _ => ⟨rfl, rfl⟩, (fun h => by cases h)⟩
theorem inv_wrong {m : N3} (h : m.inv) (ho : m.x.opn = true) : (wrongN m).inv := by
  obtain ⟨h1, h2⟩ := h.o ho
  unfold wrongN shutN
  rw [if_pos (show m.isBad.x.opn = true from ho)]
  exact ⟨(fun e => by cases e), fun _ => h2, fun e => h.e0 e, fun e => h.e1 e⟩
theorem inv_nextN {m : N3} (h : m.inv) (hok : m.ok) : (nextN m).1.inv := by
  unfold nextN
  split
  · exact h
  · rename_i ho
    have ho : m.x.opn = true := by simpa using ho
    obtain ⟨h1, h2⟩ := h.o ho
    have hA : m.asked.inv := ⟨h.o, h.c, h.e0, h.e1⟩
    split
    · rename_i hq
      have hcnt := hok.cnt
      rw [hq] at hcnt
      simp only [List.length_nil, Nat.add_zero] at hcnt
      unfold fillN
      split
      · exact inv_wrong hA ho
      · split
        · rename_i hE
          obtain ⟨_, _, _, h4, h5⟩ := hE
          unfold shutN
          rw [if_pos (show (m.asked.ended (bytesN m)).x.opn = true from ho)]
          refine ⟨(fun e => by cases e), fun _ => ?_, (fun e => by cases e), fun _ => ⟨?_, h5⟩⟩
          · show true = !m.x.bad; rw [h1]; rfl
          · show eC (bytesN m) = (m.x.told : Nat); rw [h4, hcnt]
        · split
          · exact inv_wrong hA ho
          · exact ⟨fun _ => ⟨h1, h2⟩, (fun e => by rw [show (popN (m.asked.filled (bytesN m))).1.x.opn = m.x.opn from rfl, ho] at e; cases e), fun e => h.e0 h2, (fun e => by rw [show (popN (m.asked.filled (bytesN m))).1.x.whole = m.x.whole from rfl, h2] at e; cases e)⟩
    · exact ⟨fun _ => ⟨h1, h2⟩, (fun e => by rw [show (popN m).1.x.opn = m.x.opn from rfl, ho] at e; cases e), fun e => h.e0 h2, (fun e => by rw [show (popN m).1.x.whole = m.x.whole from rfl, h2] at e; cases e)⟩
end RdPlain
end Go.Proofs.YtignfbdgpgidpaaGreatDoor
