/- In one text: FsRemove. -/
import Derived.Test.YtckmciafonnohaaP06
import Derived.Test.YtckmciafonnohaaP08
/- The contract of Remove. -/
namespace Go.Proofs.Ytckmciafonnohaa
open Go.RowKit FsPlain Go.Maps
set_option linter.unusedVariables false
set_option linter.unusedSimpArgs false
set_option maxRecDepth 20000
namespace FsPlain
/-- The disk without a file. -/
def St.drop (s : St) (n : List UInt8) : St := { s with fs := s.fs.filter fun f => !(f.name == n) }
def removeR (s : St) (n : List UInt8) : St × Int := if s.call.down = true then (s.call, 5) else match s.get n with | none => (s.call, 2) | some _ => (s.call.drop n, 0)
theorem used_filter (p : F → Bool) : ∀ l : List F, used (l.filter p) ≤ used l
  | [] => Nat.le_refl _
  | x :: l => by
    have ih := used_filter p l
    unfold used at ih ⊢
    rw [List.filter_cons]
    split
    · simp only [List.map_cons, List.sum_cons]; omega
    · simp only [List.map_cons, List.sum_cons]; omega
theorem ok_drop {s : St} (h : s.ok) (n : List UInt8) : (s.drop n).ok :=
  ⟨h.r0, h.r1, h.c0, h.a0, h.a1, by
    have h1 := used_filter (fun f => !(f.name == n)) s.fs
    have h2 := h.u
    show ((used (s.fs.filter _) : Nat) : Int) ≤ s.room
    omega, fun f hf => h.k f (List.mem_filter.1 hf).1, fun f hf => h.n f (List.mem_filter.1 hf).1, Nat.le_trans (List.length_filter_le _ _) h.m, h.d.filter _⟩
theorem drop_get (s : St) (n : List UInt8) : (s.drop n).get n = none := by
  unfold St.get St.drop
  rw [List.find?_filter]
  refine List.find?_eq_none.2 fun f _ => ?_
  cases h : f.name == n <;> simp
theorem drop_get_ne (s : St) {n n' : List UInt8} (h : n' ≠ n) : (s.drop n).get n' = s.get n' := by
  unfold St.get St.drop
  rw [List.find?_filter]
  congr 1
  funext f
  cases h2 : f.name == n'
  · simp
  · have e : f.name = n' := by simpa using h2
    have : (f.name == n) = false := by simp [e, h]
    simp [this]
theorem ok_remove {s : St} (h : s.ok) (n : List UInt8) : (removeR s n).1.ok := by
  unfold removeR
  split
  · exact ok_call h
  · split
    · exact ok_call h
    · exact ok_drop (ok_call h) n
end FsPlain
theorem del_ents (L : List Pl) (n : List UInt8) : (ents L).del (.string n) = ents (L.filter fun x => !(x.f.name == n)) := by
  unfold ents DataW.del
  simp only [DataW.map.injEq]
  rw [List.filter_map]
  rfl
theorem turned_only {w w' : World} {b : Nat} (h : w.mapTurned w' b) : Only (fun i => i = b) w w' := by
  obtain ⟨es, clock, es', clock', hb, rfl⟩ := h
  refine ⟨rfl, rfl, rfl, by simp [ChangeMaps.setBlock], fun k hk hne => ?_⟩
  show (w.heap.setIfInBounds b _)[k]? = _
  rw [Array.getElem?_setIfInBounds, if_neg (fun e => hne e.symm)]
theorem blocks_sub (p : Pl → Bool) : ∀ L : List Pl, (blocks (L.filter p)).Sublist (blocks L)
  | [] => List.Sublist.refl _
  | x :: L => by
    have ih := blocks_sub p L
    rw [List.filter_cons]
    unfold blocks at ih ⊢
    split
    · simp only [List.flatMap_cons]
      exact (List.Sublist.refl _).append ih
    · simp only [List.flatMap_cons]
      exact ih.trans (List.sublist_append_right _ _)
theorem DiskAt.dropped {w w' : World} {p m : Nat} {s : St} {B : Nat → Prop} {L : List Pl} {k : Nat} (h : DiskAt w p s B m L) (n : List UInt8) (ho : w'.ownsMap Try.prog 9 ptrElem m k ((ents L).del (.string n))) (g : Only (fun i => i = m) w w') : DiskAt w' p (s.drop n) B m (L.filter fun x => !(x.f.name == n)) := by
  have hap := h.apart
  have hpm : p ≠ m := fun e => by
    simp only [List.nodup_cons, List.mem_cons, not_or] at hap; exact hap.1.1 e
  have hsub : (blocks (L.filter fun x => !(x.f.name == n))).Sublist (blocks L) := blocks_sub _ L
  refine ⟨?_, ?_, ?_, ?_, ?_, ?_, ?_⟩
  · rw [g.block p (lt_of_block h.heap) hpm]; exact h.heap
  · have := tight ho
    rw [del_ents, ents_size] at this
    exact this
  · show (L.filter _).map (·.f) = s.fs.filter _
    rw [← h.fs, List.filter_map]
    rfl
  · intro x hx
    have hx := (List.mem_filter.1 hx).1
    exact (h.file x hx).only g fun b hb e => by
      have e2 : b = m := e
      subst e2
      simp only [List.nodup_cons] at hap
      exact hap.2.1 (mem_blocks hx hb)
  · exact hap.sublist ((hsub.cons_cons m).cons_cons p)
  · intro b hb
    refine h.mine b ?_
    exact ((hsub.cons_cons m).cons_cons p).subset hb
  · exact fun b hb => Nat.lt_of_lt_of_le (h.low b hb) g.size
set_option maxRecDepth 20000 in
set_option maxHeartbeats 1000000 in
theorem remove_c (p : Nat) (s : St) (B : Nat → Prop) (n : ByteArray) (w : World) (h : Disk w p s B) (hn : n.size ≤ 1000) (hm : rightB n.data.toList = true) (h1 : s.calls ≤ 1000000000000) :
    Calls Try.prog 29 #[.pointer (some ⟨p, 0, none⟩), .string n] w (Tells w p (removeR s n.data.toList).1 B (.int .i64 (removeR s n.data.toList).2)) := by
  obtain ⟨hs, m, L, hD⟩ := h
  have C := find_yes p m s B L n w hs hD (by unfold maxLen; omega) hm h1
  have HS := Lib.hid hs
  have hkey := WideMaps.keyOf_string_mk (P := Try.prog) (k := 9) Try.underlying9 (show n.size ≤ maxLen by unfold maxLen; omega)
  clear hD hm hs
  go_enter Try.func29, Try.ntmps29
  go_wp2_with fail
  refine C.mono ?_; rintro e w2 ⟨hD, hO, hcase⟩
  have HN := Lib.hid (next_called HS.out hD hO)
  have HD := Lib.hid hD
  have HO := Lib.hid hO
  clear hD hO
  rcases hcase with ⟨hd, rfl⟩ | ⟨hd, hg, rfl⟩ | ⟨hd, x, hg, hf, rfl⟩
  · have HR : Hid (removeR s n.data.toList = (s.call, 5)) := Lib.hid (by simp [removeR, hd])
    clear hd hkey
    go_wp2_with fail
    go_ret
    exact ⟨by rw [HR.out] <;> rfl, by rw [HR.out]; exact HN.out⟩
  · have HR : Hid (removeR s n.data.toList = (s.call, 2)) := Lib.hid (by simp [removeR, hd, hg])
    clear hd hg hkey
    go_wp2_with fail
    go_ret
    exact ⟨by rw [HR.out] <;> rfl, by rw [HR.out]; exact HN.out⟩
  · have HR : Hid (removeR s n.data.toList = (s.call.drop n.data.toList, 0)) := Lib.hid (by simp [removeR, hd, hg])
    have c1 : w2.cell? ⟨p, 1, none⟩ = some (.map (some m)) := by rw [cells_at HD.out.heap]; rfl
    have hown := HD.out.own
    have HW := Lib.hid hown
    have HK := Lib.hid hkey
    clear hd hg hf hown hkey
    go_wp2_with (at_delete; refine wpList_delete_own _ rfl _ _ 42 9 rfl 52 lawS Try.underlying42 ptrElem m L.length (ents L) rfl HW.out _ _ rfl HK.out ?_; intro w3 ho3 ht3; have O3 := Lib.hid ho3; have T3 := Lib.hid ht3; clear ho3 ht3)
    go_ret
    refine ⟨by rw [HR.out] <;> rfl, ?_⟩
    rw [HR.out]
    have hD3 := HD.out.dropped n.data.toList O3.out (turned_only T3.out)
    refine ⟨B, ⟨ok_drop (ok_call HS.out) _, m, _, hD3⟩, ?_, fun b hb => .inl hb⟩
    exact (HO.out.mono (fun i e => by subst e; exact HD.out.mine _ (by simp))).trans ((turned_only T3.out).mono fun i e => by subst e; exact HD.out.mine _ (by simp))
theorem d_remove (p : Nat) (s : St) (n : ByteArray) (hn : n.size ≤ 1000) (hm : rightB n.data.toList = true) (h1 : s.calls ≤ 1000000000000) (w : World) (B : Nat → Prop) (h : DiskA p s w B) :
    Calls Try.prog 29 #[.pointer (some ⟨p, 0, none⟩), .string n] w (Does w B (DiskA p (removeR s n.data.toList).1) (.int .i64 (removeR s n.data.toList).2)) :=
  (remove_c p s B n w h hn hm h1).mono fun e w' k => tells_does k
end Go.Proofs.Ytckmciafonnohaa
