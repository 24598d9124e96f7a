/-
  No cell of these rows narrows 'for every input' (looked for: loops, veiled, ifaces, maps, wideKeys, modest, calm, conditions, laid).
  DERIVED. THE GIVEN ROWS OF THIS SEAT. 9 by the template 'for every input the law returns true; each argument reads behind the call as it read before'; 0 by the template 'total and deterministic' (their statements: YtfcolmjjfoaeeaaTotals.lean).
  GIVEN WITH THE SEED: the statements are not yours to turn. If you find one false, say at which input.
  Laid BY PROGRAM, IN A SANDBOX (cutbox-rows.mjs): the forced cells as the released guide's own fill.sh prints them over the translation e2f5d4ff22e2bee8… (all of the seat's roots in one cut). By AI agents, Wed Nov 11 2026. No macro, syntax, notation, axiom, sorry.
-/
import Derived.Test.YtfcolmjjfoaeeaaChecked
import GoSem.Claim
import GoSem.ClaimJoined
import GoSem.ClaimMapViews
import Derived.JoinedTies
import Derived.KernelRfl
namespace Go.Proofs.Ytfcolmjjfoaeeaa
/- THE CELL 'sum', in the pinned program and in every row, IS THE sha256 OF THE DUMP (.gsa) THAT YtfcolmjjfoaeeaaProg.lean LOADS. Nothing in Lean hashes anything: it is a label: what it is worth is what the hold of that sum in a sandbox is worth. -/
noncomputable def Try.pinned : Pinned := { name := "ytfcolmjjfoaeeaa", sum := "e2f5d4ff22e2bee83d5d1a3c569fd039a4bd2149ee3d5eff9b4c12c04e1a9387", checked := Try.checked }
namespace Rows
def none {H : Type} : Left H := { results := [], args := [] }

/-- 'laws.FnLetterMask': WHATEVER THE INPUT: true; the input reads as it did. -/
def fnLetterMaskSpec : ChangeSpec := { name := "fnLetterMask", fn := fun _ => fun
  | [d] => { results := [.lit (.bool true)], args := [d] }
  | _ => none }
def fnLetterMaskRow : OpenClaim := { program := "ytfcolmjjfoaeeaa", sum := "e2f5d4ff22e2bee83d5d1a3c569fd039a4bd2149ee3d5eff9b4c12c04e1a9387", func := "loop.example/fuzzydictionary/laws.FnLetterMask", spec := "fnLetterMask", apart := false }
def FnLetterMaskSaid : Prop := fnLetterMaskRow.holds Try.pinned (OpenSpec.ofChange fnLetterMaskSpec)

/-- ITS FALSE NEIGHBOUR: 'it returns false'. Refute it at one input. -/
def fnLetterMaskWrong : ChangeSpec := { name := "fnLetterMask", fn := fun _ => fun
  | [d] => { results := [.lit (.bool false)], args := [d] }
  | _ => none }
def FnLetterMaskWrongFalsely : Prop := fnLetterMaskRow.holds Try.pinned (OpenSpec.ofChange fnLetterMaskWrong)

/-- 'laws.FnBitColumn': WHATEVER THE INPUT: true; the input reads as it did. -/
def fnBitColumnSpec : ChangeSpec := { name := "fnBitColumn", fn := fun _ => fun
  | [d] => { results := [.lit (.bool true)], args := [d] }
  | _ => none }
def fnBitColumnRow : OpenClaim := { program := "ytfcolmjjfoaeeaa", sum := "e2f5d4ff22e2bee83d5d1a3c569fd039a4bd2149ee3d5eff9b4c12c04e1a9387", func := "loop.example/fuzzydictionary/laws.FnBitColumn", spec := "fnBitColumn", apart := false }
def FnBitColumnSaid : Prop := fnBitColumnRow.holds Try.pinned (OpenSpec.ofChange fnBitColumnSpec)

/-- ITS FALSE NEIGHBOUR: 'it returns false'. Refute it at one input. -/
def fnBitColumnWrong : ChangeSpec := { name := "fnBitColumn", fn := fun _ => fun
  | [d] => { results := [.lit (.bool false)], args := [d] }
  | _ => none }
def FnBitColumnWrongFalsely : Prop := fnBitColumnRow.holds Try.pinned (OpenSpec.ofChange fnBitColumnWrong)

/-- 'laws.FnBitDistance': WHATEVER THE INPUT: true; the input reads as it did. -/
def fnBitDistanceSpec : ChangeSpec := { name := "fnBitDistance", fn := fun _ => fun
  | [d] => { results := [.lit (.bool true)], args := [d] }
  | _ => none }
def fnBitDistanceRow : OpenClaim := { program := "ytfcolmjjfoaeeaa", sum := "e2f5d4ff22e2bee83d5d1a3c569fd039a4bd2149ee3d5eff9b4c12c04e1a9387", func := "loop.example/fuzzydictionary/laws.FnBitDistance", spec := "fnBitDistance", apart := false }
def FnBitDistanceSaid : Prop := fnBitDistanceRow.holds Try.pinned (OpenSpec.ofChange fnBitDistanceSpec)

/-- ITS FALSE NEIGHBOUR: 'it returns false'. Refute it at one input. -/
def fnBitDistanceWrong : ChangeSpec := { name := "fnBitDistance", fn := fun _ => fun
  | [d] => { results := [.lit (.bool false)], args := [d] }
  | _ => none }
def FnBitDistanceWrongFalsely : Prop := fnBitDistanceRow.holds Try.pinned (OpenSpec.ofChange fnBitDistanceWrong)

/-- 'laws.FnStepColumn': WHATEVER THE INPUT: true; the input reads as it did. -/
def fnStepColumnSpec : ChangeSpec := { name := "fnStepColumn", fn := fun _ => fun
  | [d] => { results := [.lit (.bool true)], args := [d] }
  | _ => none }
def fnStepColumnRow : OpenClaim := { program := "ytfcolmjjfoaeeaa", sum := "e2f5d4ff22e2bee83d5d1a3c569fd039a4bd2149ee3d5eff9b4c12c04e1a9387", func := "loop.example/fuzzydictionary/laws.FnStepColumn", spec := "fnStepColumn", apart := false }
def FnStepColumnSaid : Prop := fnStepColumnRow.holds Try.pinned (OpenSpec.ofChange fnStepColumnSpec)

/-- ITS FALSE NEIGHBOUR: 'it returns false'. Refute it at one input. -/
def fnStepColumnWrong : ChangeSpec := { name := "fnStepColumn", fn := fun _ => fun
  | [d] => { results := [.lit (.bool false)], args := [d] }
  | _ => none }
def FnStepColumnWrongFalsely : Prop := fnStepColumnRow.holds Try.pinned (OpenSpec.ofChange fnStepColumnWrong)

/-- 'laws.FnColumnRun': WHATEVER THE INPUT: true; the input reads as it did. -/
def fnColumnRunSpec : ChangeSpec := { name := "fnColumnRun", fn := fun _ => fun
  | [d] => { results := [.lit (.bool true)], args := [d] }
  | _ => none }
def fnColumnRunRow : OpenClaim := { program := "ytfcolmjjfoaeeaa", sum := "e2f5d4ff22e2bee83d5d1a3c569fd039a4bd2149ee3d5eff9b4c12c04e1a9387", func := "loop.example/fuzzydictionary/laws.FnColumnRun", spec := "fnColumnRun", apart := false }
def FnColumnRunSaid : Prop := fnColumnRunRow.holds Try.pinned (OpenSpec.ofChange fnColumnRunSpec)

/-- ITS FALSE NEIGHBOUR: 'it returns false'. Refute it at one input. -/
def fnColumnRunWrong : ChangeSpec := { name := "fnColumnRun", fn := fun _ => fun
  | [d] => { results := [.lit (.bool false)], args := [d] }
  | _ => none }
def FnColumnRunWrongFalsely : Prop := fnColumnRunRow.holds Try.pinned (OpenSpec.ofChange fnColumnRunWrong)

/-- 'laws.FnExactLetterMask': WHATEVER THE INPUT: true; the input reads as it did. -/
def fnExactLetterMaskSpec : ChangeSpec := { name := "fnExactLetterMask", fn := fun _ => fun
  | [d1, d2] => { results := [.lit (.bool true)], args := [d1, d2] }
  | _ => none }
def fnExactLetterMaskRow : OpenClaim := { program := "ytfcolmjjfoaeeaa", sum := "e2f5d4ff22e2bee83d5d1a3c569fd039a4bd2149ee3d5eff9b4c12c04e1a9387", func := "loop.example/fuzzydictionary/laws.FnExactLetterMask", spec := "fnExactLetterMask", apart := false }
def FnExactLetterMaskSaid : Prop := fnExactLetterMaskRow.holds Try.pinned (OpenSpec.ofChange fnExactLetterMaskSpec)

/-- ITS FALSE NEIGHBOUR: 'it returns false'. Refute it at one input. -/
def fnExactLetterMaskWrong : ChangeSpec := { name := "fnExactLetterMask", fn := fun _ => fun
  | [d1, d2] => { results := [.lit (.bool false)], args := [d1, d2] }
  | _ => none }
def FnExactLetterMaskWrongFalsely : Prop := fnExactLetterMaskRow.holds Try.pinned (OpenSpec.ofChange fnExactLetterMaskWrong)

/-- 'laws.FnExactBitColumn': WHATEVER THE INPUT: true; the input reads as it did. -/
def fnExactBitColumnSpec : ChangeSpec := { name := "fnExactBitColumn", fn := fun _ => fun
  | [d1, d2] => { results := [.lit (.bool true)], args := [d1, d2] }
  | _ => none }
def fnExactBitColumnRow : OpenClaim := { program := "ytfcolmjjfoaeeaa", sum := "e2f5d4ff22e2bee83d5d1a3c569fd039a4bd2149ee3d5eff9b4c12c04e1a9387", func := "loop.example/fuzzydictionary/laws.FnExactBitColumn", spec := "fnExactBitColumn", apart := false }
def FnExactBitColumnSaid : Prop := fnExactBitColumnRow.holds Try.pinned (OpenSpec.ofChange fnExactBitColumnSpec)

/-- ITS FALSE NEIGHBOUR: 'it returns false'. Refute it at one input. -/
def fnExactBitColumnWrong : ChangeSpec := { name := "fnExactBitColumn", fn := fun _ => fun
  | [d1, d2] => { results := [.lit (.bool false)], args := [d1, d2] }
  | _ => none }
def FnExactBitColumnWrongFalsely : Prop := fnExactBitColumnRow.holds Try.pinned (OpenSpec.ofChange fnExactBitColumnWrong)

/-- 'laws.FnExactBitDistance': WHATEVER THE INPUT: true; the input reads as it did. -/
def fnExactBitDistanceSpec : ChangeSpec := { name := "fnExactBitDistance", fn := fun _ => fun
  | [d1, d2, d3, d4] => { results := [.lit (.bool true)], args := [d1, d2, d3, d4] }
  | _ => none }
def fnExactBitDistanceRow : OpenClaim := { program := "ytfcolmjjfoaeeaa", sum := "e2f5d4ff22e2bee83d5d1a3c569fd039a4bd2149ee3d5eff9b4c12c04e1a9387", func := "loop.example/fuzzydictionary/laws.FnExactBitDistance", spec := "fnExactBitDistance", apart := false }
def FnExactBitDistanceSaid : Prop := fnExactBitDistanceRow.holds Try.pinned (OpenSpec.ofChange fnExactBitDistanceSpec)

/-- ITS FALSE NEIGHBOUR: 'it returns false'. Refute it at one input. -/
def fnExactBitDistanceWrong : ChangeSpec := { name := "fnExactBitDistance", fn := fun _ => fun
  | [d1, d2, d3, d4] => { results := [.lit (.bool false)], args := [d1, d2, d3, d4] }
  | _ => none }
def FnExactBitDistanceWrongFalsely : Prop := fnExactBitDistanceRow.holds Try.pinned (OpenSpec.ofChange fnExactBitDistanceWrong)

/-- 'laws.FnExactStepColumn': WHATEVER THE INPUT: true; the input reads as it did. -/
def fnExactStepColumnSpec : ChangeSpec := { name := "fnExactStepColumn", fn := fun _ => fun
  | [d1, d2, d3] => { results := [.lit (.bool true)], args := [d1, d2, d3] }
  | _ => none }
def fnExactStepColumnRow : OpenClaim := { program := "ytfcolmjjfoaeeaa", sum := "e2f5d4ff22e2bee83d5d1a3c569fd039a4bd2149ee3d5eff9b4c12c04e1a9387", func := "loop.example/fuzzydictionary/laws.FnExactStepColumn", spec := "fnExactStepColumn", apart := false }
def FnExactStepColumnSaid : Prop := fnExactStepColumnRow.holds Try.pinned (OpenSpec.ofChange fnExactStepColumnSpec)

/-- ITS FALSE NEIGHBOUR: 'it returns false'. Refute it at one input. -/
def fnExactStepColumnWrong : ChangeSpec := { name := "fnExactStepColumn", fn := fun _ => fun
  | [d1, d2, d3] => { results := [.lit (.bool false)], args := [d1, d2, d3] }
  | _ => none }
def FnExactStepColumnWrongFalsely : Prop := fnExactStepColumnRow.holds Try.pinned (OpenSpec.ofChange fnExactStepColumnWrong)

/- THE SECOND FORM. 'bulk': how many values and letters a reading holds, each counted each time it is reached (what is shared counts as often as it is met; a slice's spare places count too). A statement '..UptoSaid' is the law's where the arguments, and the package variables that the reading takes, are together of bulk at most 1048576: NARROWER than '..Said'. Prove '..Said' where nothing that the law and all that it calls make is longer than what came in: it says more and counts as full. Else prove '..UptoSaid'. A law counts once. -/
mutual
def uptoBulk {H : Type} : DataW H → Nat
  | .lit (.string bytes) => bytes.length + 1
  | .lit _ => 1
  | .nil => 1
  | .ptr d => uptoBulk d + 1
  | .slice elems spare => uptoBulkAll elems + uptoBulkAll spare + 1
  | .agg parts => uptoBulkAll parts + 1
  | .iface _ d => uptoBulk d + 1
  | .map entries => uptoBulkEntries entries + 1
  | .held _ => 1
def uptoBulkAll {H : Type} : List (DataW H) → Nat
  | [] => 0
  | d :: r => uptoBulk d + uptoBulkAll r
def uptoBulkEntries {H : Type} : List (Lit × DataW H) → Nat
  | [] => 0
  | x :: r => uptoBulkEntry x + uptoBulkEntries r
def uptoBulkEntry {H : Type} : Lit × DataW H → Nat
  | (.string bytes, d) => bytes.length + uptoBulk d + 1
  | (_, d) => uptoBulk d + 1
 end
def uptoSmall : (H : Type) → List (DataW H) → Bool := fun _ ds => decide (uptoBulkAll ds ≤ 1048576)
def OpenSpec.upto (s : _root_.Go.ChangeSpec) : _root_.Go.OpenSpec := { _root_.Go.OpenSpec.ofChange s with cond := some uptoSmall }

/-- 'laws.FnLetterMask', WHERE WHAT IT READS IS OF BULK AT MOST 1048576: true; the input reads as it did. -/
def fnLetterMaskUptoRow : OpenClaim := { program := "ytfcolmjjfoaeeaa", sum := "e2f5d4ff22e2bee83d5d1a3c569fd039a4bd2149ee3d5eff9b4c12c04e1a9387", func := "loop.example/fuzzydictionary/laws.FnLetterMask", spec := "fnLetterMask", apart := false, narrowed := true }
def FnLetterMaskUptoSaid : Prop := fnLetterMaskUptoRow.holds Try.pinned (OpenSpec.upto fnLetterMaskSpec)

/-- 'laws.FnBitColumn', WHERE WHAT IT READS IS OF BULK AT MOST 1048576: true; the input reads as it did. -/
def fnBitColumnUptoRow : OpenClaim := { program := "ytfcolmjjfoaeeaa", sum := "e2f5d4ff22e2bee83d5d1a3c569fd039a4bd2149ee3d5eff9b4c12c04e1a9387", func := "loop.example/fuzzydictionary/laws.FnBitColumn", spec := "fnBitColumn", apart := false, narrowed := true }
def FnBitColumnUptoSaid : Prop := fnBitColumnUptoRow.holds Try.pinned (OpenSpec.upto fnBitColumnSpec)

/-- 'laws.FnBitDistance', WHERE WHAT IT READS IS OF BULK AT MOST 1048576: true; the input reads as it did. -/
def fnBitDistanceUptoRow : OpenClaim := { program := "ytfcolmjjfoaeeaa", sum := "e2f5d4ff22e2bee83d5d1a3c569fd039a4bd2149ee3d5eff9b4c12c04e1a9387", func := "loop.example/fuzzydictionary/laws.FnBitDistance", spec := "fnBitDistance", apart := false, narrowed := true }
def FnBitDistanceUptoSaid : Prop := fnBitDistanceUptoRow.holds Try.pinned (OpenSpec.upto fnBitDistanceSpec)

/-- 'laws.FnStepColumn', WHERE WHAT IT READS IS OF BULK AT MOST 1048576: true; the input reads as it did. -/
def fnStepColumnUptoRow : OpenClaim := { program := "ytfcolmjjfoaeeaa", sum := "e2f5d4ff22e2bee83d5d1a3c569fd039a4bd2149ee3d5eff9b4c12c04e1a9387", func := "loop.example/fuzzydictionary/laws.FnStepColumn", spec := "fnStepColumn", apart := false, narrowed := true }
def FnStepColumnUptoSaid : Prop := fnStepColumnUptoRow.holds Try.pinned (OpenSpec.upto fnStepColumnSpec)

/-- 'laws.FnColumnRun', WHERE WHAT IT READS IS OF BULK AT MOST 1048576: true; the input reads as it did. -/
def fnColumnRunUptoRow : OpenClaim := { program := "ytfcolmjjfoaeeaa", sum := "e2f5d4ff22e2bee83d5d1a3c569fd039a4bd2149ee3d5eff9b4c12c04e1a9387", func := "loop.example/fuzzydictionary/laws.FnColumnRun", spec := "fnColumnRun", apart := false, narrowed := true }
def FnColumnRunUptoSaid : Prop := fnColumnRunUptoRow.holds Try.pinned (OpenSpec.upto fnColumnRunSpec)

/-- 'laws.FnExactLetterMask', WHERE WHAT IT READS IS OF BULK AT MOST 1048576: true; the input reads as it did. -/
def fnExactLetterMaskUptoRow : OpenClaim := { program := "ytfcolmjjfoaeeaa", sum := "e2f5d4ff22e2bee83d5d1a3c569fd039a4bd2149ee3d5eff9b4c12c04e1a9387", func := "loop.example/fuzzydictionary/laws.FnExactLetterMask", spec := "fnExactLetterMask", apart := false, narrowed := true }
def FnExactLetterMaskUptoSaid : Prop := fnExactLetterMaskUptoRow.holds Try.pinned (OpenSpec.upto fnExactLetterMaskSpec)

/-- 'laws.FnExactBitColumn', WHERE WHAT IT READS IS OF BULK AT MOST 1048576: true; the input reads as it did. -/
def fnExactBitColumnUptoRow : OpenClaim := { program := "ytfcolmjjfoaeeaa", sum := "e2f5d4ff22e2bee83d5d1a3c569fd039a4bd2149ee3d5eff9b4c12c04e1a9387", func := "loop.example/fuzzydictionary/laws.FnExactBitColumn", spec := "fnExactBitColumn", apart := false, narrowed := true }
def FnExactBitColumnUptoSaid : Prop := fnExactBitColumnUptoRow.holds Try.pinned (OpenSpec.upto fnExactBitColumnSpec)

/-- 'laws.FnExactBitDistance', WHERE WHAT IT READS IS OF BULK AT MOST 1048576: true; the input reads as it did. -/
def fnExactBitDistanceUptoRow : OpenClaim := { program := "ytfcolmjjfoaeeaa", sum := "e2f5d4ff22e2bee83d5d1a3c569fd039a4bd2149ee3d5eff9b4c12c04e1a9387", func := "loop.example/fuzzydictionary/laws.FnExactBitDistance", spec := "fnExactBitDistance", apart := false, narrowed := true }
def FnExactBitDistanceUptoSaid : Prop := fnExactBitDistanceUptoRow.holds Try.pinned (OpenSpec.upto fnExactBitDistanceSpec)

/-- 'laws.FnExactStepColumn', WHERE WHAT IT READS IS OF BULK AT MOST 1048576: true; the input reads as it did. -/
def fnExactStepColumnUptoRow : OpenClaim := { program := "ytfcolmjjfoaeeaa", sum := "e2f5d4ff22e2bee83d5d1a3c569fd039a4bd2149ee3d5eff9b4c12c04e1a9387", func := "loop.example/fuzzydictionary/laws.FnExactStepColumn", spec := "fnExactStepColumn", apart := false, narrowed := true }
def FnExactStepColumnUptoSaid : Prop := fnExactStepColumnUptoRow.holds Try.pinned (OpenSpec.upto fnExactStepColumnSpec)

end Rows
end Go.Proofs.Ytfcolmjjfoaeeaa
