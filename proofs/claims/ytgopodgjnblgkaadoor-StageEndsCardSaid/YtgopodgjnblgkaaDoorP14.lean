/- In one text: Clone, CrcOpen. -/
import Derived.Test.YtgopodgjnblgkaaDoorRows
import Derived.Test.YtgopodgjnblgkaaDoorP00
import Derived.Test.YtgopodgjnblgkaaDoorP13
import Derived.Deep.RegionLaw
import Derived.RegionTactic
import Derived.BigRegion
import Derived.Deep.QuietTactic
import Derived.BigQuiet
import Derived.Lib.Strings
import Derived.Deep.RegionHeld3
/- strings.Clone gives the same bytes: by the library's contract of internal/stringslite.Clone, laid at this program's numbers. -/
namespace Go.Proofs.YtgopodgjnblgkaaDoor
open Go.RowKit
set_option linter.unusedVariables false
end Go.Proofs.YtgopodgjnblgkaaDoor
/- The contracts of Open and of the document's own Open: by walks of their texts. -/
namespace Go.Proofs.YtgopodgjnblgkaaDoor
open Go.RowKit CrcPlain
set_option linter.unusedVariables false
set_option linter.unusedSimpArgs false
set_option maxRecDepth 20000
def ahead (s : ByteArray) : ByteArray := s.extract 0 (s.size - 4)
/-- Is what stands behind the sum of what stands ahead? -/
def opB (s : ByteArray) : Bool := decide (4 ≤ s.size ∧ s.extract (s.size - 4) s.size = bs (tl (more 0 (ahead s).data.toList)))
def opS (s : ByteArray) : ByteArray := if opB s = true then ahead s else ⟨#[]⟩
theorem opS_no {s : ByteArray} (h : opB s = false) : opS s = ⟨#[]⟩ := by simp [opS, h]
theorem opS_yes {s : ByteArray} (h : opB s = true) : opS s = ahead s := by simp [opS, h]
theorem eq_list {a b : ByteArray} : (a.toList == b.toList) = decide (a = b) := by
  apply Bool.eq_iff_iff.2
  simp only [beq_iff_eq, decide_eq_true_iff]
  constructor
  · intro h
    rw [Lib.toList_data, Lib.toList_data] at h
    apply ByteArray.ext; exact Array.toList_inj.1 h
  · intro h; rw [h]
theorem ahead_size (s : ByteArray) (h : 4 ≤ s.size) : (ahead s).size = s.size - 4 := by unfold ahead; rw [ByteArray.size_extract]; omega
theorem parts (s : ByteArray) (k : Nat) (h : k ≤ s.size) : s.extract 0 k ++ s.extract k s.size = s := by
  apply ByteArray.ext
  apply Array.toList_inj.1
  simp [ByteArray.data_append]
theorem cl_is (s : ByteArray) (h4 : 4 ≤ s.size) : (cl (ahead s) = s) ↔ opB s = true := by
  have hp := parts s (s.size - 4) (by omega)
  unfold opB cl
  rw [decide_eq_true_iff]
  have ha : ahead s = s.extract 0 (s.size - 4) := rfl
  constructor
  · intro h
    refine ⟨h4, ?_⟩
    have h2 : ahead s ++ bs (tl (more 0 (ahead s).data.toList)) = ahead s ++ s.extract (s.size - 4) s.size := by rw [h, ha, hp]
    have h3 := congrArg (fun x => x.data.toList) h2
    simp only [ByteArray.data_append, Array.toList_append] at h3
    apply ByteArray.ext
    exact (Array.toList_inj.1 (List.append_cancel_left h3)).symm
  · intro h
    rw [← h.2, ha]; exact hp
end Go.Proofs.YtgopodgjnblgkaaDoor
