/- A table of rows of ints that a call owns: a slice of rows, each whole; the numbers of the distance with exchanges. -/
import Derived.Test.YtocmlkkigejifaaDistSpec
namespace Go.Proofs.Ytocmlkkigejifaa
open Go.RowKit
set_option maxHeartbeats 400000
set_option linter.unusedSimpArgs false
set_option linter.unusedVariables false

/-- the number at a place of the table of two texts, with exchanges -/
noncomputable def sdist (a b : ByteArray) (i j : Nat) : Nat := cell true a.data.toList b.data.toList i j
theorem sdist_top (a b : ByteArray) {j : Nat} (hj : j ≤ b.size) : sdist a b 0 j = j := cell_top _ _ _ _ (by simpa using hj)
theorem sdist_left (a b : ByteArray) {i : Nat} (hi : i ≤ a.size) : sdist a b i 0 = i := cell_left _ _ _ _ (by simpa using hi)
theorem sdist_le (a b : ByteArray) (i j : Nat) : sdist a b i j ≤ max i j := cell_le _ _ _ _ _
theorem sdist_last (a b : ByteArray) : sdist a b a.size b.size = ed true a.data.toList b.data.toList := by
  have h := cell_last true a.data.toList b.data.toList
  simpa [sdist] using h
theorem sdist_step (a b : ByteArray) (i j : Nat) (hi : i < a.size) (hj : j < b.size) (hno : ¬ ∃ (h1 : 0 < i) (h2 : 0 < j), a[i] = b[j - 1] ∧ a[i - 1] = b[j]) :
    sdist a b (i + 1) (j + 1) = min (sdist a b i j + if a[i] = b[j] then 0 else 1) (min (sdist a b i (j + 1)) (sdist a b (i + 1) j) + 1) :=
  scell_step _ _ i j (by simpa using hi) (by simpa using hj) hno
theorem sdist_swap (a b : ByteArray) (i j : Nat) (hi : i + 1 < a.size) (hj : j + 1 < b.size) (h1 : a[i + 1] = b[j]) (h2 : a[i] = b[j + 1]) :
    sdist a b (i + 2) (j + 2) = min (min (sdist a b (i + 1) (j + 1) + if a[i + 1] = b[j + 1] then 0 else 1) (min (sdist a b (i + 1) (j + 2)) (sdist a b (i + 2) (j + 1)) + 1)) (sdist a b i j + 1) :=
  scell_swap _ _ i j (by simpa using hi) (by simpa using hj) h1 h2

end Go.Proofs.Ytocmlkkigejifaa
