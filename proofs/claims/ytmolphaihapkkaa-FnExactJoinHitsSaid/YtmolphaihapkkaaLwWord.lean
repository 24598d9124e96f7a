/- The walk of the law FnWordValid, and the fixed answer (alive). -/
import Derived.Test.YtmolphaihapkkaaWordDraw
import Derived.Test.YtmolphaihapkkaaLst
import Derived.Test.YtmolphaihapkkaaShared
import Derived.Lib.Strings
namespace Go.Proofs.Ytmolphaihapkkaa
open Go.RowKit
set_option maxHeartbeats 400000
set_option linter.unusedSimpArgs false
set_option linter.unusedVariables false

def TextPost (k : Nat) (w : World) (e : Ending) (w' : World) : Prop := ∃ t : ByteArray, e = .returned (.string t) ∧ t.size ≤ k ∧ Below w.heap.size w w'
theorem word_take {l : List UInt8} (h : wordB l = true) (k : Nat) : wordB (l.take k) = true := by
  unfold wordB at *
  rw [Bool.and_eq_true, decide_eq_true_iff] at *
  refine ⟨by rw [List.length_take]; omega, ?_⟩
  unfold lettersB at *
  rw [List.all_eq_true] at *
  exact fun x hx => h.2 x (List.mem_of_mem_take hx)
theorem word_cap {l : List UInt8} : wordB (l ++ [65]) = false := by
  unfold wordB lettersB
  rw [List.all_append]
  simp [letterB]

end Go.Proofs.Ytmolphaihapkkaa
