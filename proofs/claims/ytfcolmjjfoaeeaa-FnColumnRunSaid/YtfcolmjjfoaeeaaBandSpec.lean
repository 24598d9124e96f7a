/- Contracts of the model: l1In, WithinDistance, BandCells, LeastDistance. -/
import Derived.Test.YtfcolmjjfoaeeaaDistFns
import Derived.Test.YtfcolmjjfoaeeaaBounds
import Derived.Test.YtfcolmjjfoaeeaaL1In
namespace Go.Proofs.Ytfcolmjjfoaeeaa
open Go.RowKit
set_option maxHeartbeats 1600000
set_option linter.unusedSimpArgs false
set_option linter.unusedVariables false

/-- the number of errors is one that is asked for -/
def errB (e : Int) : Bool := decide (0 ≤ e) && decide (e ≤ 4)
/-- the answer of a function of two words and a number of errors: -1 for other arguments -/
def threeI (f : List UInt8 → List UInt8 → Int → Int) (a b : List UInt8) (e : Int) : Int := if (errB e && wordB a && wordB b) = true then f a b e else -1
theorem threeI_no {f : List UInt8 → List UInt8 → Int → Int} {a b : List UInt8} {e : Int} (h : (errB e && wordB a && wordB b) = false) : threeI f a b e = -1 := by unfold threeI; rw [h]; rfl
theorem threeI_yes {f : List UInt8 → List UInt8 → Int → Int} {a b : List UInt8} {e : Int} (h : (errB e && wordB a && wordB b) = true) : threeI f a b e = f a b e := by unfold threeI; rw [if_pos h]
noncomputable def withinV (a b : List UInt8) (e : Int) : Int := if (ed false a b : Int) ≤ e then ed false a b else -1
def bandV (a b : List UInt8) (e : Int) : Int := (bandN (b.length + 1) e.toNat (a.length + 1) : Int)

end Go.Proofs.Ytfcolmjjfoaeeaa
