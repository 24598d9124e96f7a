/-
  No cell of these rows narrows 'for every input' (looked for: loops, veiled, ifaces, maps, wideKeys, modest, calm, conditions, laid).
  DERIVED. THE GIVEN ROWS OF THIS SEAT. 9 by the template 'for every input the law returns true; each argument reads behind the call as it read before'; 0 by the template 'total and deterministic' (their statements: YtmdmjhnjhelccaaTotals.lean).
  GIVEN WITH THE SEED: the statements are not yours to turn. If you find one false, say at which input.
  Laid BY PROGRAM, IN A SANDBOX (cutbox-rows.mjs): the forced cells as the released guide's own fill.sh prints them over the translation 58a1c9a72330948d… (all of the seat's roots in one cut). By AI agents, Wed Nov 11 2026. No macro, syntax, notation, axiom, sorry.
-/
import Derived.Test.YtmdmjhnjhelccaaChecked
import GoSem.Claim
import GoSem.ClaimJoined
import GoSem.ClaimMapViews
import Derived.JoinedTies
import Derived.KernelRfl
namespace Go.Proofs.Ytmdmjhnjhelccaa
/- THE CELL 'sum', in the pinned program and in every row, IS THE sha256 OF THE DUMP (.gsa) THAT YtmdmjhnjhelccaaProg.lean LOADS. Nothing in Lean hashes anything: it is a label: what it is worth is what the hold of that sum in a sandbox is worth. -/
noncomputable def Try.pinned : Pinned := { name := "ytmdmjhnjhelccaa", sum := "58a1c9a72330948d18c91fab78d3e9726b5719d776ca7f4199bf7f717ce23564", checked := Try.checked }
namespace Rows
def none {H : Type} : Left H := { results := [], args := [] }

/-- 'laws.FnApplyEdit': WHATEVER THE INPUT: true; the input reads as it did. -/
def fnApplyEditSpec : ChangeSpec := { name := "fnApplyEdit", fn := fun _ => fun
  | [d] => { results := [.lit (.bool true)], args := [d] }
  | _ => none }
def fnApplyEditRow : OpenClaim := { program := "ytmdmjhnjhelccaa", sum := "58a1c9a72330948d18c91fab78d3e9726b5719d776ca7f4199bf7f717ce23564", func := "loop.example/fuzzydictionary/laws.FnApplyEdit", spec := "fnApplyEdit", inPlace := ["slices.overlaps[byte]"], apart := false }
def FnApplyEditSaid : Prop := fnApplyEditRow.holds Try.pinned (OpenSpec.ofChange fnApplyEditSpec)

/-- ITS FALSE NEIGHBOUR: 'it returns false'. Refute it at one input. -/
def fnApplyEditWrong : ChangeSpec := { name := "fnApplyEdit", fn := fun _ => fun
  | [d] => { results := [.lit (.bool false)], args := [d] }
  | _ => none }
def FnApplyEditWrongFalsely : Prop := fnApplyEditRow.holds Try.pinned (OpenSpec.ofChange fnApplyEditWrong)

/-- 'laws.FnApplyScript': WHATEVER THE INPUT: true; the input reads as it did. -/
def fnApplyScriptSpec : ChangeSpec := { name := "fnApplyScript", fn := fun _ => fun
  | [d] => { results := [.lit (.bool true)], args := [d] }
  | _ => none }
def fnApplyScriptRow : OpenClaim := { program := "ytmdmjhnjhelccaa", sum := "58a1c9a72330948d18c91fab78d3e9726b5719d776ca7f4199bf7f717ce23564", func := "loop.example/fuzzydictionary/laws.FnApplyScript", spec := "fnApplyScript", inPlace := ["slices.overlaps[byte]"], apart := false }
def FnApplyScriptSaid : Prop := fnApplyScriptRow.holds Try.pinned (OpenSpec.ofChange fnApplyScriptSpec)

/-- ITS FALSE NEIGHBOUR: 'it returns false'. Refute it at one input. -/
def fnApplyScriptWrong : ChangeSpec := { name := "fnApplyScript", fn := fun _ => fun
  | [d] => { results := [.lit (.bool false)], args := [d] }
  | _ => none }
def FnApplyScriptWrongFalsely : Prop := fnApplyScriptRow.holds Try.pinned (OpenSpec.ofChange fnApplyScriptWrong)

/-- 'laws.FnEditScript': WHATEVER THE INPUT: true; the input reads as it did. -/
def fnEditScriptSpec : ChangeSpec := { name := "fnEditScript", fn := fun _ => fun
  | [d] => { results := [.lit (.bool true)], args := [d] }
  | _ => none }
def fnEditScriptRow : OpenClaim := { program := "ytmdmjhnjhelccaa", sum := "58a1c9a72330948d18c91fab78d3e9726b5719d776ca7f4199bf7f717ce23564", func := "loop.example/fuzzydictionary/laws.FnEditScript", spec := "fnEditScript", inPlace := ["slices.overlaps[byte]"], apart := false }
def FnEditScriptSaid : Prop := fnEditScriptRow.holds Try.pinned (OpenSpec.ofChange fnEditScriptSpec)

/-- ITS FALSE NEIGHBOUR: 'it returns false'. Refute it at one input. -/
def fnEditScriptWrong : ChangeSpec := { name := "fnEditScript", fn := fun _ => fun
  | [d] => { results := [.lit (.bool false)], args := [d] }
  | _ => none }
def FnEditScriptWrongFalsely : Prop := fnEditScriptRow.holds Try.pinned (OpenSpec.ofChange fnEditScriptWrong)

/-- 'laws.FnReverseEdit': WHATEVER THE INPUT: true; the input reads as it did. -/
def fnReverseEditSpec : ChangeSpec := { name := "fnReverseEdit", fn := fun _ => fun
  | [d] => { results := [.lit (.bool true)], args := [d] }
  | _ => none }
def fnReverseEditRow : OpenClaim := { program := "ytmdmjhnjhelccaa", sum := "58a1c9a72330948d18c91fab78d3e9726b5719d776ca7f4199bf7f717ce23564", func := "loop.example/fuzzydictionary/laws.FnReverseEdit", spec := "fnReverseEdit", inPlace := ["slices.overlaps[byte]"], apart := false }
def FnReverseEditSaid : Prop := fnReverseEditRow.holds Try.pinned (OpenSpec.ofChange fnReverseEditSpec)

/-- ITS FALSE NEIGHBOUR: 'it returns false'. Refute it at one input. -/
def fnReverseEditWrong : ChangeSpec := { name := "fnReverseEdit", fn := fun _ => fun
  | [d] => { results := [.lit (.bool false)], args := [d] }
  | _ => none }
def FnReverseEditWrongFalsely : Prop := fnReverseEditRow.holds Try.pinned (OpenSpec.ofChange fnReverseEditWrong)

/-- 'laws.FnScriptBack': WHATEVER THE INPUT: true; the input reads as it did. -/
def fnScriptBackSpec : ChangeSpec := { name := "fnScriptBack", fn := fun _ => fun
  | [d] => { results := [.lit (.bool true)], args := [d] }
  | _ => none }
def fnScriptBackRow : OpenClaim := { program := "ytmdmjhnjhelccaa", sum := "58a1c9a72330948d18c91fab78d3e9726b5719d776ca7f4199bf7f717ce23564", func := "loop.example/fuzzydictionary/laws.FnScriptBack", spec := "fnScriptBack", apart := false }
def FnScriptBackSaid : Prop := fnScriptBackRow.holds Try.pinned (OpenSpec.ofChange fnScriptBackSpec)

/-- ITS FALSE NEIGHBOUR: 'it returns false'. Refute it at one input. -/
def fnScriptBackWrong : ChangeSpec := { name := "fnScriptBack", fn := fun _ => fun
  | [d] => { results := [.lit (.bool false)], args := [d] }
  | _ => none }
def FnScriptBackWrongFalsely : Prop := fnScriptBackRow.holds Try.pinned (OpenSpec.ofChange fnScriptBackWrong)

/-- 'laws.FnExactApplyEdit': WHATEVER THE INPUT: true; the input reads as it did. -/
def fnExactApplyEditSpec : ChangeSpec := { name := "fnExactApplyEdit", fn := fun _ => fun
  | [d1, d2] => { results := [.lit (.bool true)], args := [d1, d2] }
  | _ => none }
def fnExactApplyEditRow : OpenClaim := { program := "ytmdmjhnjhelccaa", sum := "58a1c9a72330948d18c91fab78d3e9726b5719d776ca7f4199bf7f717ce23564", func := "loop.example/fuzzydictionary/laws.FnExactApplyEdit", spec := "fnExactApplyEdit", inPlace := ["slices.overlaps[byte]"], apart := false }
def FnExactApplyEditSaid : Prop := fnExactApplyEditRow.holds Try.pinned (OpenSpec.ofChange fnExactApplyEditSpec)

/-- ITS FALSE NEIGHBOUR: 'it returns false'. Refute it at one input. -/
def fnExactApplyEditWrong : ChangeSpec := { name := "fnExactApplyEdit", fn := fun _ => fun
  | [d1, d2] => { results := [.lit (.bool false)], args := [d1, d2] }
  | _ => none }
def FnExactApplyEditWrongFalsely : Prop := fnExactApplyEditRow.holds Try.pinned (OpenSpec.ofChange fnExactApplyEditWrong)

/-- 'laws.FnExactApplyScript': WHATEVER THE INPUT: true; the input reads as it did. -/
def fnExactApplyScriptSpec : ChangeSpec := { name := "fnExactApplyScript", fn := fun _ => fun
  | [d1, d2] => { results := [.lit (.bool true)], args := [d1, d2] }
  | _ => none }
def fnExactApplyScriptRow : OpenClaim := { program := "ytmdmjhnjhelccaa", sum := "58a1c9a72330948d18c91fab78d3e9726b5719d776ca7f4199bf7f717ce23564", func := "loop.example/fuzzydictionary/laws.FnExactApplyScript", spec := "fnExactApplyScript", inPlace := ["slices.overlaps[byte]"], apart := false }
def FnExactApplyScriptSaid : Prop := fnExactApplyScriptRow.holds Try.pinned (OpenSpec.ofChange fnExactApplyScriptSpec)

/-- ITS FALSE NEIGHBOUR: 'it returns false'. Refute it at one input. -/
def fnExactApplyScriptWrong : ChangeSpec := { name := "fnExactApplyScript", fn := fun _ => fun
  | [d1, d2] => { results := [.lit (.bool false)], args := [d1, d2] }
  | _ => none }
def FnExactApplyScriptWrongFalsely : Prop := fnExactApplyScriptRow.holds Try.pinned (OpenSpec.ofChange fnExactApplyScriptWrong)

/-- 'laws.FnExactEditScript': WHATEVER THE INPUT: true; the input reads as it did. -/
def fnExactEditScriptSpec : ChangeSpec := { name := "fnExactEditScript", fn := fun _ => fun
  | [d1, d2] => { results := [.lit (.bool true)], args := [d1, d2] }
  | _ => none }
def fnExactEditScriptRow : OpenClaim := { program := "ytmdmjhnjhelccaa", sum := "58a1c9a72330948d18c91fab78d3e9726b5719d776ca7f4199bf7f717ce23564", func := "loop.example/fuzzydictionary/laws.FnExactEditScript", spec := "fnExactEditScript", apart := false }
def FnExactEditScriptSaid : Prop := fnExactEditScriptRow.holds Try.pinned (OpenSpec.ofChange fnExactEditScriptSpec)

/-- ITS FALSE NEIGHBOUR: 'it returns false'. Refute it at one input. -/
def fnExactEditScriptWrong : ChangeSpec := { name := "fnExactEditScript", fn := fun _ => fun
  | [d1, d2] => { results := [.lit (.bool false)], args := [d1, d2] }
  | _ => none }
def FnExactEditScriptWrongFalsely : Prop := fnExactEditScriptRow.holds Try.pinned (OpenSpec.ofChange fnExactEditScriptWrong)

/-- 'laws.FnExactReverseEdit': WHATEVER THE INPUT: true; the input reads as it did. -/
def fnExactReverseEditSpec : ChangeSpec := { name := "fnExactReverseEdit", fn := fun _ => fun
  | [d1, d2] => { results := [.lit (.bool true)], args := [d1, d2] }
  | _ => none }
def fnExactReverseEditRow : OpenClaim := { program := "ytmdmjhnjhelccaa", sum := "58a1c9a72330948d18c91fab78d3e9726b5719d776ca7f4199bf7f717ce23564", func := "loop.example/fuzzydictionary/laws.FnExactReverseEdit", spec := "fnExactReverseEdit", apart := false }
def FnExactReverseEditSaid : Prop := fnExactReverseEditRow.holds Try.pinned (OpenSpec.ofChange fnExactReverseEditSpec)

/-- ITS FALSE NEIGHBOUR: 'it returns false'. Refute it at one input. -/
def fnExactReverseEditWrong : ChangeSpec := { name := "fnExactReverseEdit", fn := fun _ => fun
  | [d1, d2] => { results := [.lit (.bool false)], args := [d1, d2] }
  | _ => none }
def FnExactReverseEditWrongFalsely : Prop := fnExactReverseEditRow.holds Try.pinned (OpenSpec.ofChange fnExactReverseEditWrong)

/- THE SECOND FORM. 'bulk': how many values and letters a reading holds, each counted each time it is reached (what is shared counts as often as it is met; a slice's spare places count too). A statement '..UptoSaid' is the law's where the arguments, and the package variables that the reading takes, are together of bulk at most 1048576: NARROWER than '..Said'. Prove '..Said' where nothing that the law and all that it calls make is longer than what came in: it says more and counts as full. Else prove '..UptoSaid'. A law counts once. -/
mutual
def uptoBulk {H : Type} : DataW H → Nat
  | .lit (.string bytes) => bytes.length + 1
  | .lit _ => 1
  | .nil => 1
  | .ptr d => uptoBulk d + 1
  | .slice elems spare => uptoBulkAll elems + uptoBulkAll spare + 1
  | .agg parts => uptoBulkAll parts + 1
  | .iface _ d => uptoBulk d + 1
  | .map entries => uptoBulkEntries entries + 1
  | .held _ => 1
def uptoBulkAll {H : Type} : List (DataW H) → Nat
  | [] => 0
  | d :: r => uptoBulk d + uptoBulkAll r
def uptoBulkEntries {H : Type} : List (Lit × DataW H) → Nat
  | [] => 0
  | x :: r => uptoBulkEntry x + uptoBulkEntries r
def uptoBulkEntry {H : Type} : Lit × DataW H → Nat
  | (.string bytes, d) => bytes.length + uptoBulk d + 1
  | (_, d) => uptoBulk d + 1
 end
def uptoSmall : (H : Type) → List (DataW H) → Bool := fun _ ds => decide (uptoBulkAll ds ≤ 1048576)
def OpenSpec.upto (s : _root_.Go.ChangeSpec) : _root_.Go.OpenSpec := { _root_.Go.OpenSpec.ofChange s with cond := some uptoSmall }

/-- 'laws.FnApplyEdit', WHERE WHAT IT READS IS OF BULK AT MOST 1048576: true; the input reads as it did. -/
def fnApplyEditUptoRow : OpenClaim := { program := "ytmdmjhnjhelccaa", sum := "58a1c9a72330948d18c91fab78d3e9726b5719d776ca7f4199bf7f717ce23564", func := "loop.example/fuzzydictionary/laws.FnApplyEdit", spec := "fnApplyEdit", inPlace := ["slices.overlaps[byte]"], apart := false, narrowed := true }
def FnApplyEditUptoSaid : Prop := fnApplyEditUptoRow.holds Try.pinned (OpenSpec.upto fnApplyEditSpec)

/-- 'laws.FnApplyScript', WHERE WHAT IT READS IS OF BULK AT MOST 1048576: true; the input reads as it did. -/
def fnApplyScriptUptoRow : OpenClaim := { program := "ytmdmjhnjhelccaa", sum := "58a1c9a72330948d18c91fab78d3e9726b5719d776ca7f4199bf7f717ce23564", func := "loop.example/fuzzydictionary/laws.FnApplyScript", spec := "fnApplyScript", inPlace := ["slices.overlaps[byte]"], apart := false, narrowed := true }
def FnApplyScriptUptoSaid : Prop := fnApplyScriptUptoRow.holds Try.pinned (OpenSpec.upto fnApplyScriptSpec)

/-- 'laws.FnEditScript', WHERE WHAT IT READS IS OF BULK AT MOST 1048576: true; the input reads as it did. -/
def fnEditScriptUptoRow : OpenClaim := { program := "ytmdmjhnjhelccaa", sum := "58a1c9a72330948d18c91fab78d3e9726b5719d776ca7f4199bf7f717ce23564", func := "loop.example/fuzzydictionary/laws.FnEditScript", spec := "fnEditScript", inPlace := ["slices.overlaps[byte]"], apart := false, narrowed := true }
def FnEditScriptUptoSaid : Prop := fnEditScriptUptoRow.holds Try.pinned (OpenSpec.upto fnEditScriptSpec)

/-- 'laws.FnReverseEdit', WHERE WHAT IT READS IS OF BULK AT MOST 1048576: true; the input reads as it did. -/
def fnReverseEditUptoRow : OpenClaim := { program := "ytmdmjhnjhelccaa", sum := "58a1c9a72330948d18c91fab78d3e9726b5719d776ca7f4199bf7f717ce23564", func := "loop.example/fuzzydictionary/laws.FnReverseEdit", spec := "fnReverseEdit", inPlace := ["slices.overlaps[byte]"], apart := false, narrowed := true }
def FnReverseEditUptoSaid : Prop := fnReverseEditUptoRow.holds Try.pinned (OpenSpec.upto fnReverseEditSpec)

/-- 'laws.FnScriptBack', WHERE WHAT IT READS IS OF BULK AT MOST 1048576: true; the input reads as it did. -/
def fnScriptBackUptoRow : OpenClaim := { program := "ytmdmjhnjhelccaa", sum := "58a1c9a72330948d18c91fab78d3e9726b5719d776ca7f4199bf7f717ce23564", func := "loop.example/fuzzydictionary/laws.FnScriptBack", spec := "fnScriptBack", apart := false, narrowed := true }
def FnScriptBackUptoSaid : Prop := fnScriptBackUptoRow.holds Try.pinned (OpenSpec.upto fnScriptBackSpec)

/-- 'laws.FnExactApplyEdit', WHERE WHAT IT READS IS OF BULK AT MOST 1048576: true; the input reads as it did. -/
def fnExactApplyEditUptoRow : OpenClaim := { program := "ytmdmjhnjhelccaa", sum := "58a1c9a72330948d18c91fab78d3e9726b5719d776ca7f4199bf7f717ce23564", func := "loop.example/fuzzydictionary/laws.FnExactApplyEdit", spec := "fnExactApplyEdit", inPlace := ["slices.overlaps[byte]"], apart := false, narrowed := true }
def FnExactApplyEditUptoSaid : Prop := fnExactApplyEditUptoRow.holds Try.pinned (OpenSpec.upto fnExactApplyEditSpec)

/-- 'laws.FnExactApplyScript', WHERE WHAT IT READS IS OF BULK AT MOST 1048576: true; the input reads as it did. -/
def fnExactApplyScriptUptoRow : OpenClaim := { program := "ytmdmjhnjhelccaa", sum := "58a1c9a72330948d18c91fab78d3e9726b5719d776ca7f4199bf7f717ce23564", func := "loop.example/fuzzydictionary/laws.FnExactApplyScript", spec := "fnExactApplyScript", inPlace := ["slices.overlaps[byte]"], apart := false, narrowed := true }
def FnExactApplyScriptUptoSaid : Prop := fnExactApplyScriptUptoRow.holds Try.pinned (OpenSpec.upto fnExactApplyScriptSpec)

/-- 'laws.FnExactEditScript', WHERE WHAT IT READS IS OF BULK AT MOST 1048576: true; the input reads as it did. -/
def fnExactEditScriptUptoRow : OpenClaim := { program := "ytmdmjhnjhelccaa", sum := "58a1c9a72330948d18c91fab78d3e9726b5719d776ca7f4199bf7f717ce23564", func := "loop.example/fuzzydictionary/laws.FnExactEditScript", spec := "fnExactEditScript", apart := false, narrowed := true }
def FnExactEditScriptUptoSaid : Prop := fnExactEditScriptUptoRow.holds Try.pinned (OpenSpec.upto fnExactEditScriptSpec)

/-- 'laws.FnExactReverseEdit', WHERE WHAT IT READS IS OF BULK AT MOST 1048576: true; the input reads as it did. -/
def fnExactReverseEditUptoRow : OpenClaim := { program := "ytmdmjhnjhelccaa", sum := "58a1c9a72330948d18c91fab78d3e9726b5719d776ca7f4199bf7f717ce23564", func := "loop.example/fuzzydictionary/laws.FnExactReverseEdit", spec := "fnExactReverseEdit", apart := false, narrowed := true }
def FnExactReverseEditUptoSaid : Prop := fnExactReverseEditUptoRow.holds Try.pinned (OpenSpec.upto fnExactReverseEditSpec)

end Rows
end Go.Proofs.Ytmdmjhnjhelccaa
