/- Contracts of the laws' helpers over slices of texts: szStringS, toStringS, eqStringS. -/
import Derived.Test.YtfcolmjjfoaeeaaBase
namespace Go.Proofs.Ytfcolmjjfoaeeaa
open Go.RowKit
set_option maxHeartbeats 400000
set_option linter.unusedSimpArgs false
set_option linter.unusedVariables false

theorem str_info : (Try.prog.info? 9).map (fun i => (i.zero, i.size, i.bytes)) = some (some (.string ⟨#[]⟩), 1, 16) := by kernel_rfl

theorem str_beq (s t : ByteArray) : (s.toList == t.toList) = decide (s = t) := by
  rw [ByteArray.toList_eq, ByteArray.toList_eq]
  by_cases h : s = t
  · subst h; simp
  · simp only [h, decide_false, beq_eq_false_iff_ne, ne_eq]
    intro e
    exact h (by cases s; cases t; simp at e; simp [e])
theorem eq_upto {ss ts : List ByteArray} (hl : ss.length = ts.length) (h : ∀ j < ss.length, ss[j]? = ts[j]?) : ss = ts := by
  apply List.ext_getElem? ; intro j
  by_cases hj : j < ss.length
  · exact h j hj
  · rw [List.getElem?_eq_none (by omega), List.getElem?_eq_none (by omega)]

end Go.Proofs.Ytfcolmjjfoaeeaa
