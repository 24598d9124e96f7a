/-
  No cell of these rows narrows 'for every input' (looked for: loops, veiled, ifaces, maps, wideKeys, modest, calm, conditions, laid).
  DERIVED. THE GIVEN ROWS OF THIS SEAT. 10 by the template 'for every input the law returns true; each argument reads behind the call as it read before'; 0 by the template 'total and deterministic' (their statements: YtmlokccdgajamaaTotals.lean).
  GIVEN WITH THE SEED: the statements are not yours to turn. If you find one false, say at which input.
  Laid BY PROGRAM, IN A SANDBOX (cutbox-rows.mjs): the forced cells as the released guide's own fill.sh prints them over the translation 3351ac42e0eeae55… (all of the seat's roots in one cut). By AI agents, Wed Nov 11 2026. No macro, syntax, notation, axiom, sorry.
-/
import Derived.Test.YtmlokccdgajamaaChecked
import GoSem.Claim
import GoSem.ClaimJoined
import GoSem.ClaimMapViews
import Derived.JoinedTies
import Derived.KernelRfl
namespace Go.Proofs.Ytmlokccdgajamaa
/- THE CELL 'sum', in the pinned program and in every row, IS THE sha256 OF THE DUMP (.gsa) THAT YtmlokccdgajamaaProg.lean LOADS. Nothing in Lean hashes anything: it is a label: what it is worth is what the hold of that sum in a sandbox is worth. -/
noncomputable def Try.pinned : Pinned := { name := "ytmlokccdgajamaa", sum := "3351ac42e0eeae557cd2188b6d0fd842f4eb99484fed628aff57af317f8fe463", checked := Try.checked }
namespace Rows
def none {H : Type} : Left H := { results := [], args := [] }

/-- 'laws.FnWordValid': WHATEVER THE INPUT: true; the input reads as it did. -/
def fnWordValidSpec : ChangeSpec := { name := "fnWordValid", fn := fun _ => fun
  | [d] => { results := [.lit (.bool true)], args := [d] }
  | _ => none }
def fnWordValidRow : OpenClaim := { program := "ytmlokccdgajamaa", sum := "3351ac42e0eeae557cd2188b6d0fd842f4eb99484fed628aff57af317f8fe463", func := "loop.example/fuzzydictionary/laws.FnWordValid", spec := "fnWordValid", apart := false }
def FnWordValidSaid : Prop := fnWordValidRow.holds Try.pinned (OpenSpec.ofChange fnWordValidSpec)

/-- ITS FALSE NEIGHBOUR: 'it returns false'. Refute it at one input. -/
def fnWordValidWrong : ChangeSpec := { name := "fnWordValid", fn := fun _ => fun
  | [d] => { results := [.lit (.bool false)], args := [d] }
  | _ => none }
def FnWordValidWrongFalsely : Prop := fnWordValidRow.holds Try.pinned (OpenSpec.ofChange fnWordValidWrong)

/-- 'laws.FnListValid': WHATEVER THE INPUT: true; the input reads as it did. -/
def fnListValidSpec : ChangeSpec := { name := "fnListValid", fn := fun _ => fun
  | [d] => { results := [.lit (.bool true)], args := [d] }
  | _ => none }
def fnListValidRow : OpenClaim := { program := "ytmlokccdgajamaa", sum := "3351ac42e0eeae557cd2188b6d0fd842f4eb99484fed628aff57af317f8fe463", func := "loop.example/fuzzydictionary/laws.FnListValid", spec := "fnListValid", apart := false }
def FnListValidSaid : Prop := fnListValidRow.holds Try.pinned (OpenSpec.ofChange fnListValidSpec)

/-- ITS FALSE NEIGHBOUR: 'it returns false'. Refute it at one input. -/
def fnListValidWrong : ChangeSpec := { name := "fnListValid", fn := fun _ => fun
  | [d] => { results := [.lit (.bool false)], args := [d] }
  | _ => none }
def FnListValidWrongFalsely : Prop := fnListValidRow.holds Try.pinned (OpenSpec.ofChange fnListValidWrong)

/-- 'laws.FnListOf': WHATEVER THE INPUT: true; the input reads as it did. -/
def fnListOfSpec : ChangeSpec := { name := "fnListOf", fn := fun _ => fun
  | [d] => { results := [.lit (.bool true)], args := [d] }
  | _ => none }
def fnListOfRow : OpenClaim := { program := "ytmlokccdgajamaa", sum := "3351ac42e0eeae557cd2188b6d0fd842f4eb99484fed628aff57af317f8fe463", func := "loop.example/fuzzydictionary/laws.FnListOf", spec := "fnListOf", recurses := true, apart := false }
def FnListOfSaid : Prop := fnListOfRow.holds Try.pinned (OpenSpec.ofChange fnListOfSpec)

/-- ITS FALSE NEIGHBOUR: 'it returns false'. Refute it at one input. -/
def fnListOfWrong : ChangeSpec := { name := "fnListOf", fn := fun _ => fun
  | [d] => { results := [.lit (.bool false)], args := [d] }
  | _ => none }
def FnListOfWrongFalsely : Prop := fnListOfRow.holds Try.pinned (OpenSpec.ofChange fnListOfWrong)

/-- 'laws.FnListFind': WHATEVER THE INPUT: true; the input reads as it did. -/
def fnListFindSpec : ChangeSpec := { name := "fnListFind", fn := fun _ => fun
  | [d] => { results := [.lit (.bool true)], args := [d] }
  | _ => none }
def fnListFindRow : OpenClaim := { program := "ytmlokccdgajamaa", sum := "3351ac42e0eeae557cd2188b6d0fd842f4eb99484fed628aff57af317f8fe463", func := "loop.example/fuzzydictionary/laws.FnListFind", spec := "fnListFind", apart := false }
def FnListFindSaid : Prop := fnListFindRow.holds Try.pinned (OpenSpec.ofChange fnListFindSpec)

/-- ITS FALSE NEIGHBOUR: 'it returns false'. Refute it at one input. -/
def fnListFindWrong : ChangeSpec := { name := "fnListFind", fn := fun _ => fun
  | [d] => { results := [.lit (.bool false)], args := [d] }
  | _ => none }
def FnListFindWrongFalsely : Prop := fnListFindRow.holds Try.pinned (OpenSpec.ofChange fnListFindWrong)

/-- 'laws.FnSharedStart': WHATEVER THE INPUT: true; the input reads as it did. -/
def fnSharedStartSpec : ChangeSpec := { name := "fnSharedStart", fn := fun _ => fun
  | [d] => { results := [.lit (.bool true)], args := [d] }
  | _ => none }
def fnSharedStartRow : OpenClaim := { program := "ytmlokccdgajamaa", sum := "3351ac42e0eeae557cd2188b6d0fd842f4eb99484fed628aff57af317f8fe463", func := "loop.example/fuzzydictionary/laws.FnSharedStart", spec := "fnSharedStart", apart := false }
def FnSharedStartSaid : Prop := fnSharedStartRow.holds Try.pinned (OpenSpec.ofChange fnSharedStartSpec)

/-- ITS FALSE NEIGHBOUR: 'it returns false'. Refute it at one input. -/
def fnSharedStartWrong : ChangeSpec := { name := "fnSharedStart", fn := fun _ => fun
  | [d] => { results := [.lit (.bool false)], args := [d] }
  | _ => none }
def FnSharedStartWrongFalsely : Prop := fnSharedStartRow.holds Try.pinned (OpenSpec.ofChange fnSharedStartWrong)

/-- 'laws.FnExactWordValid': WHATEVER THE INPUT: true; the input reads as it did. -/
def fnExactWordValidSpec : ChangeSpec := { name := "fnExactWordValid", fn := fun _ => fun
  | [d] => { results := [.lit (.bool true)], args := [d] }
  | _ => none }
def fnExactWordValidRow : OpenClaim := { program := "ytmlokccdgajamaa", sum := "3351ac42e0eeae557cd2188b6d0fd842f4eb99484fed628aff57af317f8fe463", func := "loop.example/fuzzydictionary/laws.FnExactWordValid", spec := "fnExactWordValid", apart := false }
def FnExactWordValidSaid : Prop := fnExactWordValidRow.holds Try.pinned (OpenSpec.ofChange fnExactWordValidSpec)

/-- ITS FALSE NEIGHBOUR: 'it returns false'. Refute it at one input. -/
def fnExactWordValidWrong : ChangeSpec := { name := "fnExactWordValid", fn := fun _ => fun
  | [d] => { results := [.lit (.bool false)], args := [d] }
  | _ => none }
def FnExactWordValidWrongFalsely : Prop := fnExactWordValidRow.holds Try.pinned (OpenSpec.ofChange fnExactWordValidWrong)

/-- 'laws.FnExactListValid': WHATEVER THE INPUT: true; the input reads as it did. -/
def fnExactListValidSpec : ChangeSpec := { name := "fnExactListValid", fn := fun _ => fun
  | [d] => { results := [.lit (.bool true)], args := [d] }
  | _ => none }
def fnExactListValidRow : OpenClaim := { program := "ytmlokccdgajamaa", sum := "3351ac42e0eeae557cd2188b6d0fd842f4eb99484fed628aff57af317f8fe463", func := "loop.example/fuzzydictionary/laws.FnExactListValid", spec := "fnExactListValid", apart := false }
def FnExactListValidSaid : Prop := fnExactListValidRow.holds Try.pinned (OpenSpec.ofChange fnExactListValidSpec)

/-- ITS FALSE NEIGHBOUR: 'it returns false'. Refute it at one input. -/
def fnExactListValidWrong : ChangeSpec := { name := "fnExactListValid", fn := fun _ => fun
  | [d] => { results := [.lit (.bool false)], args := [d] }
  | _ => none }
def FnExactListValidWrongFalsely : Prop := fnExactListValidRow.holds Try.pinned (OpenSpec.ofChange fnExactListValidWrong)

/-- 'laws.FnExactListOf': WHATEVER THE INPUT: true; the input reads as it did. -/
def fnExactListOfSpec : ChangeSpec := { name := "fnExactListOf", fn := fun _ => fun
  | [d] => { results := [.lit (.bool true)], args := [d] }
  | _ => none }
def fnExactListOfRow : OpenClaim := { program := "ytmlokccdgajamaa", sum := "3351ac42e0eeae557cd2188b6d0fd842f4eb99484fed628aff57af317f8fe463", func := "loop.example/fuzzydictionary/laws.FnExactListOf", spec := "fnExactListOf", recurses := true, apart := false }
def FnExactListOfSaid : Prop := fnExactListOfRow.holds Try.pinned (OpenSpec.ofChange fnExactListOfSpec)

/-- ITS FALSE NEIGHBOUR: 'it returns false'. Refute it at one input. -/
def fnExactListOfWrong : ChangeSpec := { name := "fnExactListOf", fn := fun _ => fun
  | [d] => { results := [.lit (.bool false)], args := [d] }
  | _ => none }
def FnExactListOfWrongFalsely : Prop := fnExactListOfRow.holds Try.pinned (OpenSpec.ofChange fnExactListOfWrong)

/-- 'laws.FnExactListFind': WHATEVER THE INPUT: true; the input reads as it did. -/
def fnExactListFindSpec : ChangeSpec := { name := "fnExactListFind", fn := fun _ => fun
  | [d1, d2] => { results := [.lit (.bool true)], args := [d1, d2] }
  | _ => none }
def fnExactListFindRow : OpenClaim := { program := "ytmlokccdgajamaa", sum := "3351ac42e0eeae557cd2188b6d0fd842f4eb99484fed628aff57af317f8fe463", func := "loop.example/fuzzydictionary/laws.FnExactListFind", spec := "fnExactListFind", apart := false }
def FnExactListFindSaid : Prop := fnExactListFindRow.holds Try.pinned (OpenSpec.ofChange fnExactListFindSpec)

/-- ITS FALSE NEIGHBOUR: 'it returns false'. Refute it at one input. -/
def fnExactListFindWrong : ChangeSpec := { name := "fnExactListFind", fn := fun _ => fun
  | [d1, d2] => { results := [.lit (.bool false)], args := [d1, d2] }
  | _ => none }
def FnExactListFindWrongFalsely : Prop := fnExactListFindRow.holds Try.pinned (OpenSpec.ofChange fnExactListFindWrong)

/-- 'laws.FnExactSharedStart': WHATEVER THE INPUT: true; the input reads as it did. -/
def fnExactSharedStartSpec : ChangeSpec := { name := "fnExactSharedStart", fn := fun _ => fun
  | [d1, d2] => { results := [.lit (.bool true)], args := [d1, d2] }
  | _ => none }
def fnExactSharedStartRow : OpenClaim := { program := "ytmlokccdgajamaa", sum := "3351ac42e0eeae557cd2188b6d0fd842f4eb99484fed628aff57af317f8fe463", func := "loop.example/fuzzydictionary/laws.FnExactSharedStart", spec := "fnExactSharedStart", apart := false }
def FnExactSharedStartSaid : Prop := fnExactSharedStartRow.holds Try.pinned (OpenSpec.ofChange fnExactSharedStartSpec)

/-- ITS FALSE NEIGHBOUR: 'it returns false'. Refute it at one input. -/
def fnExactSharedStartWrong : ChangeSpec := { name := "fnExactSharedStart", fn := fun _ => fun
  | [d1, d2] => { results := [.lit (.bool false)], args := [d1, d2] }
  | _ => none }
def FnExactSharedStartWrongFalsely : Prop := fnExactSharedStartRow.holds Try.pinned (OpenSpec.ofChange fnExactSharedStartWrong)

/- THE SECOND FORM. 'bulk': how many values and letters a reading holds, each counted each time it is reached (what is shared counts as often as it is met; a slice's spare places count too). A statement '..UptoSaid' is the law's where the arguments, and the package variables that the reading takes, are together of bulk at most 1048576: NARROWER than '..Said'. Prove '..Said' where nothing that the law and all that it calls make is longer than what came in: it says more and counts as full. Else prove '..UptoSaid'. A law counts once. -/
mutual
def uptoBulk {H : Type} : DataW H → Nat
  | .lit (.string bytes) => bytes.length + 1
  | .lit _ => 1
  | .nil => 1
  | .ptr d => uptoBulk d + 1
  | .slice elems spare => uptoBulkAll elems + uptoBulkAll spare + 1
  | .agg parts => uptoBulkAll parts + 1
  | .iface _ d => uptoBulk d + 1
  | .map entries => uptoBulkEntries entries + 1
  | .held _ => 1
def uptoBulkAll {H : Type} : List (DataW H) → Nat
  | [] => 0
  | d :: r => uptoBulk d + uptoBulkAll r
def uptoBulkEntries {H : Type} : List (Lit × DataW H) → Nat
  | [] => 0
  | x :: r => uptoBulkEntry x + uptoBulkEntries r
def uptoBulkEntry {H : Type} : Lit × DataW H → Nat
  | (.string bytes, d) => bytes.length + uptoBulk d + 1
  | (_, d) => uptoBulk d + 1
 end
def uptoSmall : (H : Type) → List (DataW H) → Bool := fun _ ds => decide (uptoBulkAll ds ≤ 1048576)
def OpenSpec.upto (s : _root_.Go.ChangeSpec) : _root_.Go.OpenSpec := { _root_.Go.OpenSpec.ofChange s with cond := some uptoSmall }

/-- 'laws.FnWordValid', WHERE WHAT IT READS IS OF BULK AT MOST 1048576: true; the input reads as it did. -/
def fnWordValidUptoRow : OpenClaim := { program := "ytmlokccdgajamaa", sum := "3351ac42e0eeae557cd2188b6d0fd842f4eb99484fed628aff57af317f8fe463", func := "loop.example/fuzzydictionary/laws.FnWordValid", spec := "fnWordValid", apart := false, narrowed := true }
def FnWordValidUptoSaid : Prop := fnWordValidUptoRow.holds Try.pinned (OpenSpec.upto fnWordValidSpec)

/-- 'laws.FnListValid', WHERE WHAT IT READS IS OF BULK AT MOST 1048576: true; the input reads as it did. -/
def fnListValidUptoRow : OpenClaim := { program := "ytmlokccdgajamaa", sum := "3351ac42e0eeae557cd2188b6d0fd842f4eb99484fed628aff57af317f8fe463", func := "loop.example/fuzzydictionary/laws.FnListValid", spec := "fnListValid", apart := false, narrowed := true }
def FnListValidUptoSaid : Prop := fnListValidUptoRow.holds Try.pinned (OpenSpec.upto fnListValidSpec)

/-- 'laws.FnListOf', WHERE WHAT IT READS IS OF BULK AT MOST 1048576: true; the input reads as it did. -/
def fnListOfUptoRow : OpenClaim := { program := "ytmlokccdgajamaa", sum := "3351ac42e0eeae557cd2188b6d0fd842f4eb99484fed628aff57af317f8fe463", func := "loop.example/fuzzydictionary/laws.FnListOf", spec := "fnListOf", recurses := true, apart := false, narrowed := true }
def FnListOfUptoSaid : Prop := fnListOfUptoRow.holds Try.pinned (OpenSpec.upto fnListOfSpec)

/-- 'laws.FnListFind', WHERE WHAT IT READS IS OF BULK AT MOST 1048576: true; the input reads as it did. -/
def fnListFindUptoRow : OpenClaim := { program := "ytmlokccdgajamaa", sum := "3351ac42e0eeae557cd2188b6d0fd842f4eb99484fed628aff57af317f8fe463", func := "loop.example/fuzzydictionary/laws.FnListFind", spec := "fnListFind", apart := false, narrowed := true }
def FnListFindUptoSaid : Prop := fnListFindUptoRow.holds Try.pinned (OpenSpec.upto fnListFindSpec)

/-- 'laws.FnSharedStart', WHERE WHAT IT READS IS OF BULK AT MOST 1048576: true; the input reads as it did. -/
def fnSharedStartUptoRow : OpenClaim := { program := "ytmlokccdgajamaa", sum := "3351ac42e0eeae557cd2188b6d0fd842f4eb99484fed628aff57af317f8fe463", func := "loop.example/fuzzydictionary/laws.FnSharedStart", spec := "fnSharedStart", apart := false, narrowed := true }
def FnSharedStartUptoSaid : Prop := fnSharedStartUptoRow.holds Try.pinned (OpenSpec.upto fnSharedStartSpec)

/-- 'laws.FnExactWordValid', WHERE WHAT IT READS IS OF BULK AT MOST 1048576: true; the input reads as it did. -/
def fnExactWordValidUptoRow : OpenClaim := { program := "ytmlokccdgajamaa", sum := "3351ac42e0eeae557cd2188b6d0fd842f4eb99484fed628aff57af317f8fe463", func := "loop.example/fuzzydictionary/laws.FnExactWordValid", spec := "fnExactWordValid", apart := false, narrowed := true }
def FnExactWordValidUptoSaid : Prop := fnExactWordValidUptoRow.holds Try.pinned (OpenSpec.upto fnExactWordValidSpec)

/-- 'laws.FnExactListValid', WHERE WHAT IT READS IS OF BULK AT MOST 1048576: true; the input reads as it did. -/
def fnExactListValidUptoRow : OpenClaim := { program := "ytmlokccdgajamaa", sum := "3351ac42e0eeae557cd2188b6d0fd842f4eb99484fed628aff57af317f8fe463", func := "loop.example/fuzzydictionary/laws.FnExactListValid", spec := "fnExactListValid", apart := false, narrowed := true }
def FnExactListValidUptoSaid : Prop := fnExactListValidUptoRow.holds Try.pinned (OpenSpec.upto fnExactListValidSpec)

/-- 'laws.FnExactListOf', WHERE WHAT IT READS IS OF BULK AT MOST 1048576: true; the input reads as it did. -/
def fnExactListOfUptoRow : OpenClaim := { program := "ytmlokccdgajamaa", sum := "3351ac42e0eeae557cd2188b6d0fd842f4eb99484fed628aff57af317f8fe463", func := "loop.example/fuzzydictionary/laws.FnExactListOf", spec := "fnExactListOf", recurses := true, apart := false, narrowed := true }
def FnExactListOfUptoSaid : Prop := fnExactListOfUptoRow.holds Try.pinned (OpenSpec.upto fnExactListOfSpec)

/-- 'laws.FnExactListFind', WHERE WHAT IT READS IS OF BULK AT MOST 1048576: true; the input reads as it did. -/
def fnExactListFindUptoRow : OpenClaim := { program := "ytmlokccdgajamaa", sum := "3351ac42e0eeae557cd2188b6d0fd842f4eb99484fed628aff57af317f8fe463", func := "loop.example/fuzzydictionary/laws.FnExactListFind", spec := "fnExactListFind", apart := false, narrowed := true }
def FnExactListFindUptoSaid : Prop := fnExactListFindUptoRow.holds Try.pinned (OpenSpec.upto fnExactListFindSpec)

/-- 'laws.FnExactSharedStart', WHERE WHAT IT READS IS OF BULK AT MOST 1048576: true; the input reads as it did. -/
def fnExactSharedStartUptoRow : OpenClaim := { program := "ytmlokccdgajamaa", sum := "3351ac42e0eeae557cd2188b6d0fd842f4eb99484fed628aff57af317f8fe463", func := "loop.example/fuzzydictionary/laws.FnExactSharedStart", spec := "fnExactSharedStart", apart := false, narrowed := true }
def FnExactSharedStartUptoSaid : Prop := fnExactSharedStartUptoRow.holds Try.pinned (OpenSpec.upto fnExactSharedStartSpec)

end Rows
end Go.Proofs.Ytmlokccdgajamaa
