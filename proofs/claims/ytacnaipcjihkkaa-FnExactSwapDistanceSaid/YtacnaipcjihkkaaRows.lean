/-
  No cell of these rows narrows 'for every input' (looked for: loops, veiled, ifaces, maps, wideKeys, modest, calm, conditions, laid).
  DERIVED. THE GIVEN ROWS OF THIS SEAT. 9 by the template 'for every input the law returns true; each argument reads behind the call as it read before'; 0 by the template 'total and deterministic' (their statements: YtacnaipcjihkkaaTotals.lean).
  GIVEN WITH THE SEED: the statements are not yours to turn. If you find one false, say at which input.
  Laid BY PROGRAM, IN A SANDBOX (cutbox-rows.mjs): the forced cells as the released guide's own fill.sh prints them over the translation 2dc0a6d980f6e48b… (all of the seat's roots in one cut). By AI agents, Wed Nov 11 2026. No macro, syntax, notation, axiom, sorry.
-/
import Derived.Test.YtacnaipcjihkkaaChecked
import GoSem.Claim
import GoSem.ClaimJoined
import GoSem.ClaimMapViews
import Derived.JoinedTies
import Derived.KernelRfl
namespace Go.Proofs.Ytacnaipcjihkkaa
/- THE CELL 'sum', in the pinned program and in every row, IS THE sha256 OF THE DUMP (.gsa) THAT YtacnaipcjihkkaaProg.lean LOADS. Nothing in Lean hashes anything: it is a label: what it is worth is what the hold of that sum in a sandbox is worth. -/
noncomputable def Try.pinned : Pinned := { name := "ytacnaipcjihkkaa", sum := "2dc0a6d980f6e48bf2e84bdd453530ab14d6ca884a2ee1d99e4ddb8e367d9454", checked := Try.checked }
namespace Rows
def none {H : Type} : Left H := { results := [], args := [] }

/-- 'laws.FnEditDistance': WHATEVER THE INPUT: true; the input reads as it did. -/
def fnEditDistanceSpec : ChangeSpec := { name := "fnEditDistance", fn := fun _ => fun
  | [d] => { results := [.lit (.bool true)], args := [d] }
  | _ => none }
def fnEditDistanceRow : OpenClaim := { program := "ytacnaipcjihkkaa", sum := "2dc0a6d980f6e48bf2e84bdd453530ab14d6ca884a2ee1d99e4ddb8e367d9454", func := "loop.example/fuzzydictionary/laws.FnEditDistance", spec := "fnEditDistance", apart := false }
def FnEditDistanceSaid : Prop := fnEditDistanceRow.holds Try.pinned (OpenSpec.ofChange fnEditDistanceSpec)

/-- ITS FALSE NEIGHBOUR: 'it returns false'. Refute it at one input. -/
def fnEditDistanceWrong : ChangeSpec := { name := "fnEditDistance", fn := fun _ => fun
  | [d] => { results := [.lit (.bool false)], args := [d] }
  | _ => none }
def FnEditDistanceWrongFalsely : Prop := fnEditDistanceRow.holds Try.pinned (OpenSpec.ofChange fnEditDistanceWrong)

/-- 'laws.FnSwapDistance': WHATEVER THE INPUT: true; the input reads as it did. -/
def fnSwapDistanceSpec : ChangeSpec := { name := "fnSwapDistance", fn := fun _ => fun
  | [d] => { results := [.lit (.bool true)], args := [d] }
  | _ => none }
def fnSwapDistanceRow : OpenClaim := { program := "ytacnaipcjihkkaa", sum := "2dc0a6d980f6e48bf2e84bdd453530ab14d6ca884a2ee1d99e4ddb8e367d9454", func := "loop.example/fuzzydictionary/laws.FnSwapDistance", spec := "fnSwapDistance", apart := false }
def FnSwapDistanceSaid : Prop := fnSwapDistanceRow.holds Try.pinned (OpenSpec.ofChange fnSwapDistanceSpec)

/-- ITS FALSE NEIGHBOUR: 'it returns false'. Refute it at one input. -/
def fnSwapDistanceWrong : ChangeSpec := { name := "fnSwapDistance", fn := fun _ => fun
  | [d] => { results := [.lit (.bool false)], args := [d] }
  | _ => none }
def FnSwapDistanceWrongFalsely : Prop := fnSwapDistanceRow.holds Try.pinned (OpenSpec.ofChange fnSwapDistanceWrong)

/-- 'laws.FnLongestCommon': WHATEVER THE INPUT: true; the input reads as it did. -/
def fnLongestCommonSpec : ChangeSpec := { name := "fnLongestCommon", fn := fun _ => fun
  | [d] => { results := [.lit (.bool true)], args := [d] }
  | _ => none }
def fnLongestCommonRow : OpenClaim := { program := "ytacnaipcjihkkaa", sum := "2dc0a6d980f6e48bf2e84bdd453530ab14d6ca884a2ee1d99e4ddb8e367d9454", func := "loop.example/fuzzydictionary/laws.FnLongestCommon", spec := "fnLongestCommon", apart := false }
def FnLongestCommonSaid : Prop := fnLongestCommonRow.holds Try.pinned (OpenSpec.ofChange fnLongestCommonSpec)

/-- ITS FALSE NEIGHBOUR: 'it returns false'. Refute it at one input. -/
def fnLongestCommonWrong : ChangeSpec := { name := "fnLongestCommon", fn := fun _ => fun
  | [d] => { results := [.lit (.bool false)], args := [d] }
  | _ => none }
def FnLongestCommonWrongFalsely : Prop := fnLongestCommonRow.holds Try.pinned (OpenSpec.ofChange fnLongestCommonWrong)

/-- 'laws.FnDifferentPlaces': WHATEVER THE INPUT: true; the input reads as it did. -/
def fnDifferentPlacesSpec : ChangeSpec := { name := "fnDifferentPlaces", fn := fun _ => fun
  | [d] => { results := [.lit (.bool true)], args := [d] }
  | _ => none }
def fnDifferentPlacesRow : OpenClaim := { program := "ytacnaipcjihkkaa", sum := "2dc0a6d980f6e48bf2e84bdd453530ab14d6ca884a2ee1d99e4ddb8e367d9454", func := "loop.example/fuzzydictionary/laws.FnDifferentPlaces", spec := "fnDifferentPlaces", apart := false }
def FnDifferentPlacesSaid : Prop := fnDifferentPlacesRow.holds Try.pinned (OpenSpec.ofChange fnDifferentPlacesSpec)

/-- ITS FALSE NEIGHBOUR: 'it returns false'. Refute it at one input. -/
def fnDifferentPlacesWrong : ChangeSpec := { name := "fnDifferentPlaces", fn := fun _ => fun
  | [d] => { results := [.lit (.bool false)], args := [d] }
  | _ => none }
def FnDifferentPlacesWrongFalsely : Prop := fnDifferentPlacesRow.holds Try.pinned (OpenSpec.ofChange fnDifferentPlacesWrong)

/-- 'laws.FnEditEnds': WHATEVER THE INPUT: true; the input reads as it did. -/
def fnEditEndsSpec : ChangeSpec := { name := "fnEditEnds", fn := fun _ => fun
  | [d1, d2] => { results := [.lit (.bool true)], args := [d1, d2] }
  | _ => none }
def fnEditEndsRow : OpenClaim := { program := "ytacnaipcjihkkaa", sum := "2dc0a6d980f6e48bf2e84bdd453530ab14d6ca884a2ee1d99e4ddb8e367d9454", func := "loop.example/fuzzydictionary/laws.FnEditEnds", spec := "fnEditEnds", apart := false }
def FnEditEndsSaid : Prop := fnEditEndsRow.holds Try.pinned (OpenSpec.ofChange fnEditEndsSpec)

/-- ITS FALSE NEIGHBOUR: 'it returns false'. Refute it at one input. -/
def fnEditEndsWrong : ChangeSpec := { name := "fnEditEnds", fn := fun _ => fun
  | [d1, d2] => { results := [.lit (.bool false)], args := [d1, d2] }
  | _ => none }
def FnEditEndsWrongFalsely : Prop := fnEditEndsRow.holds Try.pinned (OpenSpec.ofChange fnEditEndsWrong)

/-- 'laws.FnExactEditDistance': WHATEVER THE INPUT: true; the input reads as it did. -/
def fnExactEditDistanceSpec : ChangeSpec := { name := "fnExactEditDistance", fn := fun _ => fun
  | [d1, d2] => { results := [.lit (.bool true)], args := [d1, d2] }
  | _ => none }
def fnExactEditDistanceRow : OpenClaim := { program := "ytacnaipcjihkkaa", sum := "2dc0a6d980f6e48bf2e84bdd453530ab14d6ca884a2ee1d99e4ddb8e367d9454", func := "loop.example/fuzzydictionary/laws.FnExactEditDistance", spec := "fnExactEditDistance", apart := false }
def FnExactEditDistanceSaid : Prop := fnExactEditDistanceRow.holds Try.pinned (OpenSpec.ofChange fnExactEditDistanceSpec)

/-- ITS FALSE NEIGHBOUR: 'it returns false'. Refute it at one input. -/
def fnExactEditDistanceWrong : ChangeSpec := { name := "fnExactEditDistance", fn := fun _ => fun
  | [d1, d2] => { results := [.lit (.bool false)], args := [d1, d2] }
  | _ => none }
def FnExactEditDistanceWrongFalsely : Prop := fnExactEditDistanceRow.holds Try.pinned (OpenSpec.ofChange fnExactEditDistanceWrong)

/-- 'laws.FnExactSwapDistance': WHATEVER THE INPUT: true; the input reads as it did. -/
def fnExactSwapDistanceSpec : ChangeSpec := { name := "fnExactSwapDistance", fn := fun _ => fun
  | [d1, d2] => { results := [.lit (.bool true)], args := [d1, d2] }
  | _ => none }
def fnExactSwapDistanceRow : OpenClaim := { program := "ytacnaipcjihkkaa", sum := "2dc0a6d980f6e48bf2e84bdd453530ab14d6ca884a2ee1d99e4ddb8e367d9454", func := "loop.example/fuzzydictionary/laws.FnExactSwapDistance", spec := "fnExactSwapDistance", apart := false }
def FnExactSwapDistanceSaid : Prop := fnExactSwapDistanceRow.holds Try.pinned (OpenSpec.ofChange fnExactSwapDistanceSpec)

/-- ITS FALSE NEIGHBOUR: 'it returns false'. Refute it at one input. -/
def fnExactSwapDistanceWrong : ChangeSpec := { name := "fnExactSwapDistance", fn := fun _ => fun
  | [d1, d2] => { results := [.lit (.bool false)], args := [d1, d2] }
  | _ => none }
def FnExactSwapDistanceWrongFalsely : Prop := fnExactSwapDistanceRow.holds Try.pinned (OpenSpec.ofChange fnExactSwapDistanceWrong)

/-- 'laws.FnExactLongestCommon': WHATEVER THE INPUT: true; the input reads as it did. -/
def fnExactLongestCommonSpec : ChangeSpec := { name := "fnExactLongestCommon", fn := fun _ => fun
  | [d1, d2] => { results := [.lit (.bool true)], args := [d1, d2] }
  | _ => none }
def fnExactLongestCommonRow : OpenClaim := { program := "ytacnaipcjihkkaa", sum := "2dc0a6d980f6e48bf2e84bdd453530ab14d6ca884a2ee1d99e4ddb8e367d9454", func := "loop.example/fuzzydictionary/laws.FnExactLongestCommon", spec := "fnExactLongestCommon", apart := false }
def FnExactLongestCommonSaid : Prop := fnExactLongestCommonRow.holds Try.pinned (OpenSpec.ofChange fnExactLongestCommonSpec)

/-- ITS FALSE NEIGHBOUR: 'it returns false'. Refute it at one input. -/
def fnExactLongestCommonWrong : ChangeSpec := { name := "fnExactLongestCommon", fn := fun _ => fun
  | [d1, d2] => { results := [.lit (.bool false)], args := [d1, d2] }
  | _ => none }
def FnExactLongestCommonWrongFalsely : Prop := fnExactLongestCommonRow.holds Try.pinned (OpenSpec.ofChange fnExactLongestCommonWrong)

/-- 'laws.FnExactDifferentPlaces': WHATEVER THE INPUT: true; the input reads as it did. -/
def fnExactDifferentPlacesSpec : ChangeSpec := { name := "fnExactDifferentPlaces", fn := fun _ => fun
  | [d1, d2] => { results := [.lit (.bool true)], args := [d1, d2] }
  | _ => none }
def fnExactDifferentPlacesRow : OpenClaim := { program := "ytacnaipcjihkkaa", sum := "2dc0a6d980f6e48bf2e84bdd453530ab14d6ca884a2ee1d99e4ddb8e367d9454", func := "loop.example/fuzzydictionary/laws.FnExactDifferentPlaces", spec := "fnExactDifferentPlaces", apart := false }
def FnExactDifferentPlacesSaid : Prop := fnExactDifferentPlacesRow.holds Try.pinned (OpenSpec.ofChange fnExactDifferentPlacesSpec)

/-- ITS FALSE NEIGHBOUR: 'it returns false'. Refute it at one input. -/
def fnExactDifferentPlacesWrong : ChangeSpec := { name := "fnExactDifferentPlaces", fn := fun _ => fun
  | [d1, d2] => { results := [.lit (.bool false)], args := [d1, d2] }
  | _ => none }
def FnExactDifferentPlacesWrongFalsely : Prop := fnExactDifferentPlacesRow.holds Try.pinned (OpenSpec.ofChange fnExactDifferentPlacesWrong)

/- THE SECOND FORM. 'bulk': how many values and letters a reading holds, each counted each time it is reached (what is shared counts as often as it is met; a slice's spare places count too). A statement '..UptoSaid' is the law's where the arguments, and the package variables that the reading takes, are together of bulk at most 1048576: NARROWER than '..Said'. Prove '..Said' where nothing that the law and all that it calls make is longer than what came in: it says more and counts as full. Else prove '..UptoSaid'. A law counts once. -/
mutual
def uptoBulk {H : Type} : DataW H → Nat
  | .lit (.string bytes) => bytes.length + 1
  | .lit _ => 1
  | .nil => 1
  | .ptr d => uptoBulk d + 1
  | .slice elems spare => uptoBulkAll elems + uptoBulkAll spare + 1
  | .agg parts => uptoBulkAll parts + 1
  | .iface _ d => uptoBulk d + 1
  | .map entries => uptoBulkEntries entries + 1
  | .held _ => 1
def uptoBulkAll {H : Type} : List (DataW H) → Nat
  | [] => 0
  | d :: r => uptoBulk d + uptoBulkAll r
def uptoBulkEntries {H : Type} : List (Lit × DataW H) → Nat
  | [] => 0
  | x :: r => uptoBulkEntry x + uptoBulkEntries r
def uptoBulkEntry {H : Type} : Lit × DataW H → Nat
  | (.string bytes, d) => bytes.length + uptoBulk d + 1
  | (_, d) => uptoBulk d + 1
 end
def uptoSmall : (H : Type) → List (DataW H) → Bool := fun _ ds => decide (uptoBulkAll ds ≤ 1048576)
def OpenSpec.upto (s : _root_.Go.ChangeSpec) : _root_.Go.OpenSpec := { _root_.Go.OpenSpec.ofChange s with cond := some uptoSmall }

/-- 'laws.FnEditDistance', WHERE WHAT IT READS IS OF BULK AT MOST 1048576: true; the input reads as it did. -/
def fnEditDistanceUptoRow : OpenClaim := { program := "ytacnaipcjihkkaa", sum := "2dc0a6d980f6e48bf2e84bdd453530ab14d6ca884a2ee1d99e4ddb8e367d9454", func := "loop.example/fuzzydictionary/laws.FnEditDistance", spec := "fnEditDistance", apart := false, narrowed := true }
def FnEditDistanceUptoSaid : Prop := fnEditDistanceUptoRow.holds Try.pinned (OpenSpec.upto fnEditDistanceSpec)

/-- 'laws.FnSwapDistance', WHERE WHAT IT READS IS OF BULK AT MOST 1048576: true; the input reads as it did. -/
def fnSwapDistanceUptoRow : OpenClaim := { program := "ytacnaipcjihkkaa", sum := "2dc0a6d980f6e48bf2e84bdd453530ab14d6ca884a2ee1d99e4ddb8e367d9454", func := "loop.example/fuzzydictionary/laws.FnSwapDistance", spec := "fnSwapDistance", apart := false, narrowed := true }
def FnSwapDistanceUptoSaid : Prop := fnSwapDistanceUptoRow.holds Try.pinned (OpenSpec.upto fnSwapDistanceSpec)

/-- 'laws.FnLongestCommon', WHERE WHAT IT READS IS OF BULK AT MOST 1048576: true; the input reads as it did. -/
def fnLongestCommonUptoRow : OpenClaim := { program := "ytacnaipcjihkkaa", sum := "2dc0a6d980f6e48bf2e84bdd453530ab14d6ca884a2ee1d99e4ddb8e367d9454", func := "loop.example/fuzzydictionary/laws.FnLongestCommon", spec := "fnLongestCommon", apart := false, narrowed := true }
def FnLongestCommonUptoSaid : Prop := fnLongestCommonUptoRow.holds Try.pinned (OpenSpec.upto fnLongestCommonSpec)

/-- 'laws.FnDifferentPlaces', WHERE WHAT IT READS IS OF BULK AT MOST 1048576: true; the input reads as it did. -/
def fnDifferentPlacesUptoRow : OpenClaim := { program := "ytacnaipcjihkkaa", sum := "2dc0a6d980f6e48bf2e84bdd453530ab14d6ca884a2ee1d99e4ddb8e367d9454", func := "loop.example/fuzzydictionary/laws.FnDifferentPlaces", spec := "fnDifferentPlaces", apart := false, narrowed := true }
def FnDifferentPlacesUptoSaid : Prop := fnDifferentPlacesUptoRow.holds Try.pinned (OpenSpec.upto fnDifferentPlacesSpec)

/-- 'laws.FnEditEnds', WHERE WHAT IT READS IS OF BULK AT MOST 1048576: true; the input reads as it did. -/
def fnEditEndsUptoRow : OpenClaim := { program := "ytacnaipcjihkkaa", sum := "2dc0a6d980f6e48bf2e84bdd453530ab14d6ca884a2ee1d99e4ddb8e367d9454", func := "loop.example/fuzzydictionary/laws.FnEditEnds", spec := "fnEditEnds", apart := false, narrowed := true }
def FnEditEndsUptoSaid : Prop := fnEditEndsUptoRow.holds Try.pinned (OpenSpec.upto fnEditEndsSpec)

/-- 'laws.FnExactEditDistance', WHERE WHAT IT READS IS OF BULK AT MOST 1048576: true; the input reads as it did. -/
def fnExactEditDistanceUptoRow : OpenClaim := { program := "ytacnaipcjihkkaa", sum := "2dc0a6d980f6e48bf2e84bdd453530ab14d6ca884a2ee1d99e4ddb8e367d9454", func := "loop.example/fuzzydictionary/laws.FnExactEditDistance", spec := "fnExactEditDistance", apart := false, narrowed := true }
def FnExactEditDistanceUptoSaid : Prop := fnExactEditDistanceUptoRow.holds Try.pinned (OpenSpec.upto fnExactEditDistanceSpec)

/-- 'laws.FnExactSwapDistance', WHERE WHAT IT READS IS OF BULK AT MOST 1048576: true; the input reads as it did. -/
def fnExactSwapDistanceUptoRow : OpenClaim := { program := "ytacnaipcjihkkaa", sum := "2dc0a6d980f6e48bf2e84bdd453530ab14d6ca884a2ee1d99e4ddb8e367d9454", func := "loop.example/fuzzydictionary/laws.FnExactSwapDistance", spec := "fnExactSwapDistance", apart := false, narrowed := true }
def FnExactSwapDistanceUptoSaid : Prop := fnExactSwapDistanceUptoRow.holds Try.pinned (OpenSpec.upto fnExactSwapDistanceSpec)

/-- 'laws.FnExactLongestCommon', WHERE WHAT IT READS IS OF BULK AT MOST 1048576: true; the input reads as it did. -/
def fnExactLongestCommonUptoRow : OpenClaim := { program := "ytacnaipcjihkkaa", sum := "2dc0a6d980f6e48bf2e84bdd453530ab14d6ca884a2ee1d99e4ddb8e367d9454", func := "loop.example/fuzzydictionary/laws.FnExactLongestCommon", spec := "fnExactLongestCommon", apart := false, narrowed := true }
def FnExactLongestCommonUptoSaid : Prop := fnExactLongestCommonUptoRow.holds Try.pinned (OpenSpec.upto fnExactLongestCommonSpec)

/-- 'laws.FnExactDifferentPlaces', WHERE WHAT IT READS IS OF BULK AT MOST 1048576: true; the input reads as it did. -/
def fnExactDifferentPlacesUptoRow : OpenClaim := { program := "ytacnaipcjihkkaa", sum := "2dc0a6d980f6e48bf2e84bdd453530ab14d6ca884a2ee1d99e4ddb8e367d9454", func := "loop.example/fuzzydictionary/laws.FnExactDifferentPlaces", spec := "fnExactDifferentPlaces", apart := false, narrowed := true }
def FnExactDifferentPlacesUptoSaid : Prop := fnExactDifferentPlacesUptoRow.holds Try.pinned (OpenSpec.upto fnExactDifferentPlacesSpec)

end Rows
end Go.Proofs.Ytacnaipcjihkkaa
