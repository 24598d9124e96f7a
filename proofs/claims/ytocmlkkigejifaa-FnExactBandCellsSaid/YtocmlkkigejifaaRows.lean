/-
  No cell of these rows narrows 'for every input' (looked for: loops, veiled, ifaces, maps, wideKeys, modest, calm, conditions, laid).
  DERIVED. THE GIVEN ROWS OF THIS SEAT. 7 by the template 'for every input the law returns true; each argument reads behind the call as it read before'; 0 by the template 'total and deterministic' (their statements: YtocmlkkigejifaaTotals.lean).
  GIVEN WITH THE SEED: the statements are not yours to turn. If you find one false, say at which input.
  Laid BY PROGRAM, IN A SANDBOX (cutbox-rows.mjs): the forced cells as the released guide's own fill.sh prints them over the translation 797b352f45bc99b0… (all of the seat's roots in one cut). By AI agents, Wed Nov 11 2026. No macro, syntax, notation, axiom, sorry.
-/
import Derived.Test.YtocmlkkigejifaaChecked
import GoSem.Claim
import GoSem.ClaimJoined
import GoSem.ClaimMapViews
import Derived.JoinedTies
import Derived.KernelRfl
namespace Go.Proofs.Ytocmlkkigejifaa
/- THE CELL 'sum', in the pinned program and in every row, IS THE sha256 OF THE DUMP (.gsa) THAT YtocmlkkigejifaaProg.lean LOADS. Nothing in Lean hashes anything: it is a label: what it is worth is what the hold of that sum in a sandbox is worth. -/
noncomputable def Try.pinned : Pinned := { name := "ytocmlkkigejifaa", sum := "797b352f45bc99b0831e54c7447ab37c39e0de28f0efe52219c7475752ed8970", checked := Try.checked }
namespace Rows
def none {H : Type} : Left H := { results := [], args := [] }

/-- 'laws.FnWithinDistance': WHATEVER THE INPUT: true; the input reads as it did. -/
def fnWithinDistanceSpec : ChangeSpec := { name := "fnWithinDistance", fn := fun _ => fun
  | [d] => { results := [.lit (.bool true)], args := [d] }
  | _ => none }
def fnWithinDistanceRow : OpenClaim := { program := "ytocmlkkigejifaa", sum := "797b352f45bc99b0831e54c7447ab37c39e0de28f0efe52219c7475752ed8970", func := "loop.example/fuzzydictionary/laws.FnWithinDistance", spec := "fnWithinDistance", apart := false }
def FnWithinDistanceSaid : Prop := fnWithinDistanceRow.holds Try.pinned (OpenSpec.ofChange fnWithinDistanceSpec)

/-- ITS FALSE NEIGHBOUR: 'it returns false'. Refute it at one input. -/
def fnWithinDistanceWrong : ChangeSpec := { name := "fnWithinDistance", fn := fun _ => fun
  | [d] => { results := [.lit (.bool false)], args := [d] }
  | _ => none }
def FnWithinDistanceWrongFalsely : Prop := fnWithinDistanceRow.holds Try.pinned (OpenSpec.ofChange fnWithinDistanceWrong)

/-- 'laws.FnBandCells': WHATEVER THE INPUT: true; the input reads as it did. -/
def fnBandCellsSpec : ChangeSpec := { name := "fnBandCells", fn := fun _ => fun
  | [d] => { results := [.lit (.bool true)], args := [d] }
  | _ => none }
def fnBandCellsRow : OpenClaim := { program := "ytocmlkkigejifaa", sum := "797b352f45bc99b0831e54c7447ab37c39e0de28f0efe52219c7475752ed8970", func := "loop.example/fuzzydictionary/laws.FnBandCells", spec := "fnBandCells", apart := false }
def FnBandCellsSaid : Prop := fnBandCellsRow.holds Try.pinned (OpenSpec.ofChange fnBandCellsSpec)

/-- ITS FALSE NEIGHBOUR: 'it returns false'. Refute it at one input. -/
def fnBandCellsWrong : ChangeSpec := { name := "fnBandCells", fn := fun _ => fun
  | [d] => { results := [.lit (.bool false)], args := [d] }
  | _ => none }
def FnBandCellsWrongFalsely : Prop := fnBandCellsRow.holds Try.pinned (OpenSpec.ofChange fnBandCellsWrong)

/-- 'laws.FnLeastDistance': WHATEVER THE INPUT: true; the input reads as it did. -/
def fnLeastDistanceSpec : ChangeSpec := { name := "fnLeastDistance", fn := fun _ => fun
  | [d] => { results := [.lit (.bool true)], args := [d] }
  | _ => none }
def fnLeastDistanceRow : OpenClaim := { program := "ytocmlkkigejifaa", sum := "797b352f45bc99b0831e54c7447ab37c39e0de28f0efe52219c7475752ed8970", func := "loop.example/fuzzydictionary/laws.FnLeastDistance", spec := "fnLeastDistance", apart := false }
def FnLeastDistanceSaid : Prop := fnLeastDistanceRow.holds Try.pinned (OpenSpec.ofChange fnLeastDistanceSpec)

/-- ITS FALSE NEIGHBOUR: 'it returns false'. Refute it at one input. -/
def fnLeastDistanceWrong : ChangeSpec := { name := "fnLeastDistance", fn := fun _ => fun
  | [d] => { results := [.lit (.bool false)], args := [d] }
  | _ => none }
def FnLeastDistanceWrongFalsely : Prop := fnLeastDistanceRow.holds Try.pinned (OpenSpec.ofChange fnLeastDistanceWrong)

/-- 'laws.FnBoundsOrder': WHATEVER THE INPUT: true; the input reads as it did. -/
def fnBoundsOrderSpec : ChangeSpec := { name := "fnBoundsOrder", fn := fun _ => fun
  | [d] => { results := [.lit (.bool true)], args := [d] }
  | _ => none }
def fnBoundsOrderRow : OpenClaim := { program := "ytocmlkkigejifaa", sum := "797b352f45bc99b0831e54c7447ab37c39e0de28f0efe52219c7475752ed8970", func := "loop.example/fuzzydictionary/laws.FnBoundsOrder", spec := "fnBoundsOrder", apart := false }
def FnBoundsOrderSaid : Prop := fnBoundsOrderRow.holds Try.pinned (OpenSpec.ofChange fnBoundsOrderSpec)

/-- ITS FALSE NEIGHBOUR: 'it returns false'. Refute it at one input. -/
def fnBoundsOrderWrong : ChangeSpec := { name := "fnBoundsOrder", fn := fun _ => fun
  | [d] => { results := [.lit (.bool false)], args := [d] }
  | _ => none }
def FnBoundsOrderWrongFalsely : Prop := fnBoundsOrderRow.holds Try.pinned (OpenSpec.ofChange fnBoundsOrderWrong)

/-- 'laws.FnExactWithinDistance': WHATEVER THE INPUT: true; the input reads as it did. -/
def fnExactWithinDistanceSpec : ChangeSpec := { name := "fnExactWithinDistance", fn := fun _ => fun
  | [d1, d2, d3] => { results := [.lit (.bool true)], args := [d1, d2, d3] }
  | _ => none }
def fnExactWithinDistanceRow : OpenClaim := { program := "ytocmlkkigejifaa", sum := "797b352f45bc99b0831e54c7447ab37c39e0de28f0efe52219c7475752ed8970", func := "loop.example/fuzzydictionary/laws.FnExactWithinDistance", spec := "fnExactWithinDistance", apart := false }
def FnExactWithinDistanceSaid : Prop := fnExactWithinDistanceRow.holds Try.pinned (OpenSpec.ofChange fnExactWithinDistanceSpec)

/-- ITS FALSE NEIGHBOUR: 'it returns false'. Refute it at one input. -/
def fnExactWithinDistanceWrong : ChangeSpec := { name := "fnExactWithinDistance", fn := fun _ => fun
  | [d1, d2, d3] => { results := [.lit (.bool false)], args := [d1, d2, d3] }
  | _ => none }
def FnExactWithinDistanceWrongFalsely : Prop := fnExactWithinDistanceRow.holds Try.pinned (OpenSpec.ofChange fnExactWithinDistanceWrong)

/-- 'laws.FnExactBandCells': WHATEVER THE INPUT: true; the input reads as it did. -/
def fnExactBandCellsSpec : ChangeSpec := { name := "fnExactBandCells", fn := fun _ => fun
  | [d1, d2, d3] => { results := [.lit (.bool true)], args := [d1, d2, d3] }
  | _ => none }
def fnExactBandCellsRow : OpenClaim := { program := "ytocmlkkigejifaa", sum := "797b352f45bc99b0831e54c7447ab37c39e0de28f0efe52219c7475752ed8970", func := "loop.example/fuzzydictionary/laws.FnExactBandCells", spec := "fnExactBandCells", apart := false }
def FnExactBandCellsSaid : Prop := fnExactBandCellsRow.holds Try.pinned (OpenSpec.ofChange fnExactBandCellsSpec)

/-- ITS FALSE NEIGHBOUR: 'it returns false'. Refute it at one input. -/
def fnExactBandCellsWrong : ChangeSpec := { name := "fnExactBandCells", fn := fun _ => fun
  | [d1, d2, d3] => { results := [.lit (.bool false)], args := [d1, d2, d3] }
  | _ => none }
def FnExactBandCellsWrongFalsely : Prop := fnExactBandCellsRow.holds Try.pinned (OpenSpec.ofChange fnExactBandCellsWrong)

/-- 'laws.FnExactLeastDistance': WHATEVER THE INPUT: true; the input reads as it did. -/
def fnExactLeastDistanceSpec : ChangeSpec := { name := "fnExactLeastDistance", fn := fun _ => fun
  | [d1, d2] => { results := [.lit (.bool true)], args := [d1, d2] }
  | _ => none }
def fnExactLeastDistanceRow : OpenClaim := { program := "ytocmlkkigejifaa", sum := "797b352f45bc99b0831e54c7447ab37c39e0de28f0efe52219c7475752ed8970", func := "loop.example/fuzzydictionary/laws.FnExactLeastDistance", spec := "fnExactLeastDistance", apart := false }
def FnExactLeastDistanceSaid : Prop := fnExactLeastDistanceRow.holds Try.pinned (OpenSpec.ofChange fnExactLeastDistanceSpec)

/-- ITS FALSE NEIGHBOUR: 'it returns false'. Refute it at one input. -/
def fnExactLeastDistanceWrong : ChangeSpec := { name := "fnExactLeastDistance", fn := fun _ => fun
  | [d1, d2] => { results := [.lit (.bool false)], args := [d1, d2] }
  | _ => none }
def FnExactLeastDistanceWrongFalsely : Prop := fnExactLeastDistanceRow.holds Try.pinned (OpenSpec.ofChange fnExactLeastDistanceWrong)

/- THE SECOND FORM. 'bulk': how many values and letters a reading holds, each counted each time it is reached (what is shared counts as often as it is met; a slice's spare places count too). A statement '..UptoSaid' is the law's where the arguments, and the package variables that the reading takes, are together of bulk at most 1048576: NARROWER than '..Said'. Prove '..Said' where nothing that the law and all that it calls make is longer than what came in: it says more and counts as full. Else prove '..UptoSaid'. A law counts once. -/
mutual
def uptoBulk {H : Type} : DataW H → Nat
  | .lit (.string bytes) => bytes.length + 1
  | .lit _ => 1
  | .nil => 1
  | .ptr d => uptoBulk d + 1
  | .slice elems spare => uptoBulkAll elems + uptoBulkAll spare + 1
  | .agg parts => uptoBulkAll parts + 1
  | .iface _ d => uptoBulk d + 1
  | .map entries => uptoBulkEntries entries + 1
  | .held _ => 1
def uptoBulkAll {H : Type} : List (DataW H) → Nat
  | [] => 0
  | d :: r => uptoBulk d + uptoBulkAll r
def uptoBulkEntries {H : Type} : List (Lit × DataW H) → Nat
  | [] => 0
  | x :: r => uptoBulkEntry x + uptoBulkEntries r
def uptoBulkEntry {H : Type} : Lit × DataW H → Nat
  | (.string bytes, d) => bytes.length + uptoBulk d + 1
  | (_, d) => uptoBulk d + 1
 end
def uptoSmall : (H : Type) → List (DataW H) → Bool := fun _ ds => decide (uptoBulkAll ds ≤ 1048576)
def OpenSpec.upto (s : _root_.Go.ChangeSpec) : _root_.Go.OpenSpec := { _root_.Go.OpenSpec.ofChange s with cond := some uptoSmall }

/-- 'laws.FnWithinDistance', WHERE WHAT IT READS IS OF BULK AT MOST 1048576: true; the input reads as it did. -/
def fnWithinDistanceUptoRow : OpenClaim := { program := "ytocmlkkigejifaa", sum := "797b352f45bc99b0831e54c7447ab37c39e0de28f0efe52219c7475752ed8970", func := "loop.example/fuzzydictionary/laws.FnWithinDistance", spec := "fnWithinDistance", apart := false, narrowed := true }
def FnWithinDistanceUptoSaid : Prop := fnWithinDistanceUptoRow.holds Try.pinned (OpenSpec.upto fnWithinDistanceSpec)

/-- 'laws.FnBandCells', WHERE WHAT IT READS IS OF BULK AT MOST 1048576: true; the input reads as it did. -/
def fnBandCellsUptoRow : OpenClaim := { program := "ytocmlkkigejifaa", sum := "797b352f45bc99b0831e54c7447ab37c39e0de28f0efe52219c7475752ed8970", func := "loop.example/fuzzydictionary/laws.FnBandCells", spec := "fnBandCells", apart := false, narrowed := true }
def FnBandCellsUptoSaid : Prop := fnBandCellsUptoRow.holds Try.pinned (OpenSpec.upto fnBandCellsSpec)

/-- 'laws.FnLeastDistance', WHERE WHAT IT READS IS OF BULK AT MOST 1048576: true; the input reads as it did. -/
def fnLeastDistanceUptoRow : OpenClaim := { program := "ytocmlkkigejifaa", sum := "797b352f45bc99b0831e54c7447ab37c39e0de28f0efe52219c7475752ed8970", func := "loop.example/fuzzydictionary/laws.FnLeastDistance", spec := "fnLeastDistance", apart := false, narrowed := true }
def FnLeastDistanceUptoSaid : Prop := fnLeastDistanceUptoRow.holds Try.pinned (OpenSpec.upto fnLeastDistanceSpec)

/-- 'laws.FnBoundsOrder', WHERE WHAT IT READS IS OF BULK AT MOST 1048576: true; the input reads as it did. -/
def fnBoundsOrderUptoRow : OpenClaim := { program := "ytocmlkkigejifaa", sum := "797b352f45bc99b0831e54c7447ab37c39e0de28f0efe52219c7475752ed8970", func := "loop.example/fuzzydictionary/laws.FnBoundsOrder", spec := "fnBoundsOrder", apart := false, narrowed := true }
def FnBoundsOrderUptoSaid : Prop := fnBoundsOrderUptoRow.holds Try.pinned (OpenSpec.upto fnBoundsOrderSpec)

/-- 'laws.FnExactWithinDistance', WHERE WHAT IT READS IS OF BULK AT MOST 1048576: true; the input reads as it did. -/
def fnExactWithinDistanceUptoRow : OpenClaim := { program := "ytocmlkkigejifaa", sum := "797b352f45bc99b0831e54c7447ab37c39e0de28f0efe52219c7475752ed8970", func := "loop.example/fuzzydictionary/laws.FnExactWithinDistance", spec := "fnExactWithinDistance", apart := false, narrowed := true }
def FnExactWithinDistanceUptoSaid : Prop := fnExactWithinDistanceUptoRow.holds Try.pinned (OpenSpec.upto fnExactWithinDistanceSpec)

/-- 'laws.FnExactBandCells', WHERE WHAT IT READS IS OF BULK AT MOST 1048576: true; the input reads as it did. -/
def fnExactBandCellsUptoRow : OpenClaim := { program := "ytocmlkkigejifaa", sum := "797b352f45bc99b0831e54c7447ab37c39e0de28f0efe52219c7475752ed8970", func := "loop.example/fuzzydictionary/laws.FnExactBandCells", spec := "fnExactBandCells", apart := false, narrowed := true }
def FnExactBandCellsUptoSaid : Prop := fnExactBandCellsUptoRow.holds Try.pinned (OpenSpec.upto fnExactBandCellsSpec)

/-- 'laws.FnExactLeastDistance', WHERE WHAT IT READS IS OF BULK AT MOST 1048576: true; the input reads as it did. -/
def fnExactLeastDistanceUptoRow : OpenClaim := { program := "ytocmlkkigejifaa", sum := "797b352f45bc99b0831e54c7447ab37c39e0de28f0efe52219c7475752ed8970", func := "loop.example/fuzzydictionary/laws.FnExactLeastDistance", spec := "fnExactLeastDistance", apart := false, narrowed := true }
def FnExactLeastDistanceUptoSaid : Prop := fnExactLeastDistanceUptoRow.holds Try.pinned (OpenSpec.upto fnExactLeastDistanceSpec)

end Rows
end Go.Proofs.Ytocmlkkigejifaa
