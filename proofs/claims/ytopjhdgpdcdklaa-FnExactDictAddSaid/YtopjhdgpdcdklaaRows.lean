/-
  No cell of these rows narrows 'for every input' (looked for: loops, veiled, ifaces, maps, wideKeys, modest, calm, conditions, laid).
  DERIVED. THE GIVEN ROWS OF THIS SEAT. 13 by the template 'for every input the law returns true; each argument reads behind the call as it read before'; 0 by the template 'total and deterministic' (their statements: YtopjhdgpdcdklaaTotals.lean).
  GIVEN WITH THE SEED: the statements are not yours to turn. If you find one false, say at which input.
  Laid BY PROGRAM, IN A SANDBOX (cutbox-rows.mjs): the forced cells as the released guide's own fill.sh prints them over the translation 2eb67a2a2e925482… (all of the seat's roots in one cut). By AI agents, Wed Nov 11 2026. No macro, syntax, notation, axiom, sorry.
-/
import Derived.Test.YtopjhdgpdcdklaaChecked
import GoSem.Claim
import GoSem.ClaimJoined
import GoSem.ClaimMapViews
import Derived.JoinedTies
import Derived.KernelRfl
namespace Go.Proofs.Ytopjhdgpdcdklaa
/- THE CELL 'sum', in the pinned program and in every row, IS THE sha256 OF THE DUMP (.gsa) THAT YtopjhdgpdcdklaaProg.lean LOADS. Nothing in Lean hashes anything: it is a label: what it is worth is what the hold of that sum in a sandbox is worth. -/
noncomputable def Try.pinned : Pinned := { name := "ytopjhdgpdcdklaa", sum := "2eb67a2a2e9254824fe5a7057f6068148ffc0ed72246cb3859b4d56130f80a9a", checked := Try.checked }
namespace Rows
def none {H : Type} : Left H := { results := [], args := [] }

/-- 'laws.FnDictValid': WHATEVER THE INPUT: true; the input reads as it did. -/
def fnDictValidSpec : ChangeSpec := { name := "fnDictValid", fn := fun _ => fun
  | [d] => { results := [.lit (.bool true)], args := [d] }
  | _ => none }
def fnDictValidRow : OpenClaim := { program := "ytopjhdgpdcdklaa", sum := "2eb67a2a2e9254824fe5a7057f6068148ffc0ed72246cb3859b4d56130f80a9a", func := "loop.example/fuzzydictionary/laws.FnDictValid", spec := "fnDictValid", apart := false }
def FnDictValidSaid : Prop := fnDictValidRow.holds Try.pinned (OpenSpec.ofChange fnDictValidSpec)

/-- ITS FALSE NEIGHBOUR: 'it returns false'. Refute it at one input. -/
def fnDictValidWrong : ChangeSpec := { name := "fnDictValid", fn := fun _ => fun
  | [d] => { results := [.lit (.bool false)], args := [d] }
  | _ => none }
def FnDictValidWrongFalsely : Prop := fnDictValidRow.holds Try.pinned (OpenSpec.ofChange fnDictValidWrong)

/-- 'laws.FnDictWords': WHATEVER THE INPUT: true; the input reads as it did. -/
def fnDictWordsSpec : ChangeSpec := { name := "fnDictWords", fn := fun _ => fun
  | [d] => { results := [.lit (.bool true)], args := [d] }
  | _ => none }
def fnDictWordsRow : OpenClaim := { program := "ytopjhdgpdcdklaa", sum := "2eb67a2a2e9254824fe5a7057f6068148ffc0ed72246cb3859b4d56130f80a9a", func := "loop.example/fuzzydictionary/laws.FnDictWords", spec := "fnDictWords", apart := false }
def FnDictWordsSaid : Prop := fnDictWordsRow.holds Try.pinned (OpenSpec.ofChange fnDictWordsSpec)

/-- ITS FALSE NEIGHBOUR: 'it returns false'. Refute it at one input. -/
def fnDictWordsWrong : ChangeSpec := { name := "fnDictWords", fn := fun _ => fun
  | [d] => { results := [.lit (.bool false)], args := [d] }
  | _ => none }
def FnDictWordsWrongFalsely : Prop := fnDictWordsRow.holds Try.pinned (OpenSpec.ofChange fnDictWordsWrong)

/-- 'laws.FnDictCount': WHATEVER THE INPUT: true; the input reads as it did. -/
def fnDictCountSpec : ChangeSpec := { name := "fnDictCount", fn := fun _ => fun
  | [d] => { results := [.lit (.bool true)], args := [d] }
  | _ => none }
def fnDictCountRow : OpenClaim := { program := "ytopjhdgpdcdklaa", sum := "2eb67a2a2e9254824fe5a7057f6068148ffc0ed72246cb3859b4d56130f80a9a", func := "loop.example/fuzzydictionary/laws.FnDictCount", spec := "fnDictCount", apart := false }
def FnDictCountSaid : Prop := fnDictCountRow.holds Try.pinned (OpenSpec.ofChange fnDictCountSpec)

/-- ITS FALSE NEIGHBOUR: 'it returns false'. Refute it at one input. -/
def fnDictCountWrong : ChangeSpec := { name := "fnDictCount", fn := fun _ => fun
  | [d] => { results := [.lit (.bool false)], args := [d] }
  | _ => none }
def FnDictCountWrongFalsely : Prop := fnDictCountRow.holds Try.pinned (OpenSpec.ofChange fnDictCountWrong)

/-- 'laws.FnDictAdd': WHATEVER THE INPUT: true; the input reads as it did. -/
def fnDictAddSpec : ChangeSpec := { name := "fnDictAdd", fn := fun _ => fun
  | [d] => { results := [.lit (.bool true)], args := [d] }
  | _ => none }
def fnDictAddRow : OpenClaim := { program := "ytopjhdgpdcdklaa", sum := "2eb67a2a2e9254824fe5a7057f6068148ffc0ed72246cb3859b4d56130f80a9a", func := "loop.example/fuzzydictionary/laws.FnDictAdd", spec := "fnDictAdd", inPlace := ["slices.overlaps[string]"], apart := false }
def FnDictAddSaid : Prop := fnDictAddRow.holds Try.pinned (OpenSpec.ofChange fnDictAddSpec)

/-- ITS FALSE NEIGHBOUR: 'it returns false'. Refute it at one input. -/
def fnDictAddWrong : ChangeSpec := { name := "fnDictAdd", fn := fun _ => fun
  | [d] => { results := [.lit (.bool false)], args := [d] }
  | _ => none }
def FnDictAddWrongFalsely : Prop := fnDictAddRow.holds Try.pinned (OpenSpec.ofChange fnDictAddWrong)

/-- 'laws.FnDictDrop': WHATEVER THE INPUT: true; the input reads as it did. -/
def fnDictDropSpec : ChangeSpec := { name := "fnDictDrop", fn := fun _ => fun
  | [d] => { results := [.lit (.bool true)], args := [d] }
  | _ => none }
def fnDictDropRow : OpenClaim := { program := "ytopjhdgpdcdklaa", sum := "2eb67a2a2e9254824fe5a7057f6068148ffc0ed72246cb3859b4d56130f80a9a", func := "loop.example/fuzzydictionary/laws.FnDictDrop", spec := "fnDictDrop", inPlace := ["slices.overlaps[string]"], apart := false }
def FnDictDropSaid : Prop := fnDictDropRow.holds Try.pinned (OpenSpec.ofChange fnDictDropSpec)

/-- ITS FALSE NEIGHBOUR: 'it returns false'. Refute it at one input. -/
def fnDictDropWrong : ChangeSpec := { name := "fnDictDrop", fn := fun _ => fun
  | [d] => { results := [.lit (.bool false)], args := [d] }
  | _ => none }
def FnDictDropWrongFalsely : Prop := fnDictDropRow.holds Try.pinned (OpenSpec.ofChange fnDictDropWrong)

/-- 'laws.FnDictStarts': WHATEVER THE INPUT: true; the input reads as it did. -/
def fnDictStartsSpec : ChangeSpec := { name := "fnDictStarts", fn := fun _ => fun
  | [d] => { results := [.lit (.bool true)], args := [d] }
  | _ => none }
def fnDictStartsRow : OpenClaim := { program := "ytopjhdgpdcdklaa", sum := "2eb67a2a2e9254824fe5a7057f6068148ffc0ed72246cb3859b4d56130f80a9a", func := "loop.example/fuzzydictionary/laws.FnDictStarts", spec := "fnDictStarts", apart := false }
def FnDictStartsSaid : Prop := fnDictStartsRow.holds Try.pinned (OpenSpec.ofChange fnDictStartsSpec)

/-- ITS FALSE NEIGHBOUR: 'it returns false'. Refute it at one input. -/
def fnDictStartsWrong : ChangeSpec := { name := "fnDictStarts", fn := fun _ => fun
  | [d] => { results := [.lit (.bool false)], args := [d] }
  | _ => none }
def FnDictStartsWrongFalsely : Prop := fnDictStartsRow.holds Try.pinned (OpenSpec.ofChange fnDictStartsWrong)

/-- 'laws.FnDictOrder': WHATEVER THE INPUT: true; the input reads as it did. -/
def fnDictOrderSpec : ChangeSpec := { name := "fnDictOrder", fn := fun _ => fun
  | [d1, d2] => { results := [.lit (.bool true)], args := [d1, d2] }
  | _ => none }
def fnDictOrderRow : OpenClaim := { program := "ytopjhdgpdcdklaa", sum := "2eb67a2a2e9254824fe5a7057f6068148ffc0ed72246cb3859b4d56130f80a9a", func := "loop.example/fuzzydictionary/laws.FnDictOrder", spec := "fnDictOrder", inPlace := ["slices.overlaps[string]"], apart := false }
def FnDictOrderSaid : Prop := fnDictOrderRow.holds Try.pinned (OpenSpec.ofChange fnDictOrderSpec)

/-- ITS FALSE NEIGHBOUR: 'it returns false'. Refute it at one input. -/
def fnDictOrderWrong : ChangeSpec := { name := "fnDictOrder", fn := fun _ => fun
  | [d1, d2] => { results := [.lit (.bool false)], args := [d1, d2] }
  | _ => none }
def FnDictOrderWrongFalsely : Prop := fnDictOrderRow.holds Try.pinned (OpenSpec.ofChange fnDictOrderWrong)

/-- 'laws.FnExactDictValid': WHATEVER THE INPUT: true; the input reads as it did. -/
def fnExactDictValidSpec : ChangeSpec := { name := "fnExactDictValid", fn := fun _ => fun
  | [d] => { results := [.lit (.bool true)], args := [d] }
  | _ => none }
def fnExactDictValidRow : OpenClaim := { program := "ytopjhdgpdcdklaa", sum := "2eb67a2a2e9254824fe5a7057f6068148ffc0ed72246cb3859b4d56130f80a9a", func := "loop.example/fuzzydictionary/laws.FnExactDictValid", spec := "fnExactDictValid", apart := false }
def FnExactDictValidSaid : Prop := fnExactDictValidRow.holds Try.pinned (OpenSpec.ofChange fnExactDictValidSpec)

/-- ITS FALSE NEIGHBOUR: 'it returns false'. Refute it at one input. -/
def fnExactDictValidWrong : ChangeSpec := { name := "fnExactDictValid", fn := fun _ => fun
  | [d] => { results := [.lit (.bool false)], args := [d] }
  | _ => none }
def FnExactDictValidWrongFalsely : Prop := fnExactDictValidRow.holds Try.pinned (OpenSpec.ofChange fnExactDictValidWrong)

/-- 'laws.FnExactDictWords': WHATEVER THE INPUT: true; the input reads as it did. -/
def fnExactDictWordsSpec : ChangeSpec := { name := "fnExactDictWords", fn := fun _ => fun
  | [d] => { results := [.lit (.bool true)], args := [d] }
  | _ => none }
def fnExactDictWordsRow : OpenClaim := { program := "ytopjhdgpdcdklaa", sum := "2eb67a2a2e9254824fe5a7057f6068148ffc0ed72246cb3859b4d56130f80a9a", func := "loop.example/fuzzydictionary/laws.FnExactDictWords", spec := "fnExactDictWords", apart := false }
def FnExactDictWordsSaid : Prop := fnExactDictWordsRow.holds Try.pinned (OpenSpec.ofChange fnExactDictWordsSpec)

/-- ITS FALSE NEIGHBOUR: 'it returns false'. Refute it at one input. -/
def fnExactDictWordsWrong : ChangeSpec := { name := "fnExactDictWords", fn := fun _ => fun
  | [d] => { results := [.lit (.bool false)], args := [d] }
  | _ => none }
def FnExactDictWordsWrongFalsely : Prop := fnExactDictWordsRow.holds Try.pinned (OpenSpec.ofChange fnExactDictWordsWrong)

/-- 'laws.FnExactDictCount': WHATEVER THE INPUT: true; the input reads as it did. -/
def fnExactDictCountSpec : ChangeSpec := { name := "fnExactDictCount", fn := fun _ => fun
  | [d1, d2] => { results := [.lit (.bool true)], args := [d1, d2] }
  | _ => none }
def fnExactDictCountRow : OpenClaim := { program := "ytopjhdgpdcdklaa", sum := "2eb67a2a2e9254824fe5a7057f6068148ffc0ed72246cb3859b4d56130f80a9a", func := "loop.example/fuzzydictionary/laws.FnExactDictCount", spec := "fnExactDictCount", apart := false }
def FnExactDictCountSaid : Prop := fnExactDictCountRow.holds Try.pinned (OpenSpec.ofChange fnExactDictCountSpec)

/-- ITS FALSE NEIGHBOUR: 'it returns false'. Refute it at one input. -/
def fnExactDictCountWrong : ChangeSpec := { name := "fnExactDictCount", fn := fun _ => fun
  | [d1, d2] => { results := [.lit (.bool false)], args := [d1, d2] }
  | _ => none }
def FnExactDictCountWrongFalsely : Prop := fnExactDictCountRow.holds Try.pinned (OpenSpec.ofChange fnExactDictCountWrong)

/-- 'laws.FnExactDictAdd': WHATEVER THE INPUT: true; the input reads as it did. -/
def fnExactDictAddSpec : ChangeSpec := { name := "fnExactDictAdd", fn := fun _ => fun
  | [d1, d2, d3] => { results := [.lit (.bool true)], args := [d1, d2, d3] }
  | _ => none }
def fnExactDictAddRow : OpenClaim := { program := "ytopjhdgpdcdklaa", sum := "2eb67a2a2e9254824fe5a7057f6068148ffc0ed72246cb3859b4d56130f80a9a", func := "loop.example/fuzzydictionary/laws.FnExactDictAdd", spec := "fnExactDictAdd", inPlace := ["slices.overlaps[string]"], apart := false }
def FnExactDictAddSaid : Prop := fnExactDictAddRow.holds Try.pinned (OpenSpec.ofChange fnExactDictAddSpec)

/-- ITS FALSE NEIGHBOUR: 'it returns false'. Refute it at one input. -/
def fnExactDictAddWrong : ChangeSpec := { name := "fnExactDictAdd", fn := fun _ => fun
  | [d1, d2, d3] => { results := [.lit (.bool false)], args := [d1, d2, d3] }
  | _ => none }
def FnExactDictAddWrongFalsely : Prop := fnExactDictAddRow.holds Try.pinned (OpenSpec.ofChange fnExactDictAddWrong)

/-- 'laws.FnExactDictDrop': WHATEVER THE INPUT: true; the input reads as it did. -/
def fnExactDictDropSpec : ChangeSpec := { name := "fnExactDictDrop", fn := fun _ => fun
  | [d1, d2] => { results := [.lit (.bool true)], args := [d1, d2] }
  | _ => none }
def fnExactDictDropRow : OpenClaim := { program := "ytopjhdgpdcdklaa", sum := "2eb67a2a2e9254824fe5a7057f6068148ffc0ed72246cb3859b4d56130f80a9a", func := "loop.example/fuzzydictionary/laws.FnExactDictDrop", spec := "fnExactDictDrop", apart := false }
def FnExactDictDropSaid : Prop := fnExactDictDropRow.holds Try.pinned (OpenSpec.ofChange fnExactDictDropSpec)

/-- ITS FALSE NEIGHBOUR: 'it returns false'. Refute it at one input. -/
def fnExactDictDropWrong : ChangeSpec := { name := "fnExactDictDrop", fn := fun _ => fun
  | [d1, d2] => { results := [.lit (.bool false)], args := [d1, d2] }
  | _ => none }
def FnExactDictDropWrongFalsely : Prop := fnExactDictDropRow.holds Try.pinned (OpenSpec.ofChange fnExactDictDropWrong)

/-- 'laws.FnExactDictStarts': WHATEVER THE INPUT: true; the input reads as it did. -/
def fnExactDictStartsSpec : ChangeSpec := { name := "fnExactDictStarts", fn := fun _ => fun
  | [d1, d2] => { results := [.lit (.bool true)], args := [d1, d2] }
  | _ => none }
def fnExactDictStartsRow : OpenClaim := { program := "ytopjhdgpdcdklaa", sum := "2eb67a2a2e9254824fe5a7057f6068148ffc0ed72246cb3859b4d56130f80a9a", func := "loop.example/fuzzydictionary/laws.FnExactDictStarts", spec := "fnExactDictStarts", apart := false }
def FnExactDictStartsSaid : Prop := fnExactDictStartsRow.holds Try.pinned (OpenSpec.ofChange fnExactDictStartsSpec)

/-- ITS FALSE NEIGHBOUR: 'it returns false'. Refute it at one input. -/
def fnExactDictStartsWrong : ChangeSpec := { name := "fnExactDictStarts", fn := fun _ => fun
  | [d1, d2] => { results := [.lit (.bool false)], args := [d1, d2] }
  | _ => none }
def FnExactDictStartsWrongFalsely : Prop := fnExactDictStartsRow.holds Try.pinned (OpenSpec.ofChange fnExactDictStartsWrong)

/- THE SECOND FORM. 'bulk': how many values and letters a reading holds, each counted each time it is reached (what is shared counts as often as it is met; a slice's spare places count too). A statement '..UptoSaid' is the law's where the arguments, and the package variables that the reading takes, are together of bulk at most 1048576: NARROWER than '..Said'. Prove '..Said' where nothing that the law and all that it calls make is longer than what came in: it says more and counts as full. Else prove '..UptoSaid'. A law counts once. -/
mutual
def uptoBulk {H : Type} : DataW H → Nat
  | .lit (.string bytes) => bytes.length + 1
  | .lit _ => 1
  | .nil => 1
  | .ptr d => uptoBulk d + 1
  | .slice elems spare => uptoBulkAll elems + uptoBulkAll spare + 1
  | .agg parts => uptoBulkAll parts + 1
  | .iface _ d => uptoBulk d + 1
  | .map entries => uptoBulkEntries entries + 1
  | .held _ => 1
def uptoBulkAll {H : Type} : List (DataW H) → Nat
  | [] => 0
  | d :: r => uptoBulk d + uptoBulkAll r
def uptoBulkEntries {H : Type} : List (Lit × DataW H) → Nat
  | [] => 0
  | x :: r => uptoBulkEntry x + uptoBulkEntries r
def uptoBulkEntry {H : Type} : Lit × DataW H → Nat
  | (.string bytes, d) => bytes.length + uptoBulk d + 1
  | (_, d) => uptoBulk d + 1
 end
def uptoSmall : (H : Type) → List (DataW H) → Bool := fun _ ds => decide (uptoBulkAll ds ≤ 1048576)
def OpenSpec.upto (s : _root_.Go.ChangeSpec) : _root_.Go.OpenSpec := { _root_.Go.OpenSpec.ofChange s with cond := some uptoSmall }

/-- 'laws.FnDictValid', WHERE WHAT IT READS IS OF BULK AT MOST 1048576: true; the input reads as it did. -/
def fnDictValidUptoRow : OpenClaim := { program := "ytopjhdgpdcdklaa", sum := "2eb67a2a2e9254824fe5a7057f6068148ffc0ed72246cb3859b4d56130f80a9a", func := "loop.example/fuzzydictionary/laws.FnDictValid", spec := "fnDictValid", apart := false, narrowed := true }
def FnDictValidUptoSaid : Prop := fnDictValidUptoRow.holds Try.pinned (OpenSpec.upto fnDictValidSpec)

/-- 'laws.FnDictWords', WHERE WHAT IT READS IS OF BULK AT MOST 1048576: true; the input reads as it did. -/
def fnDictWordsUptoRow : OpenClaim := { program := "ytopjhdgpdcdklaa", sum := "2eb67a2a2e9254824fe5a7057f6068148ffc0ed72246cb3859b4d56130f80a9a", func := "loop.example/fuzzydictionary/laws.FnDictWords", spec := "fnDictWords", apart := false, narrowed := true }
def FnDictWordsUptoSaid : Prop := fnDictWordsUptoRow.holds Try.pinned (OpenSpec.upto fnDictWordsSpec)

/-- 'laws.FnDictCount', WHERE WHAT IT READS IS OF BULK AT MOST 1048576: true; the input reads as it did. -/
def fnDictCountUptoRow : OpenClaim := { program := "ytopjhdgpdcdklaa", sum := "2eb67a2a2e9254824fe5a7057f6068148ffc0ed72246cb3859b4d56130f80a9a", func := "loop.example/fuzzydictionary/laws.FnDictCount", spec := "fnDictCount", apart := false, narrowed := true }
def FnDictCountUptoSaid : Prop := fnDictCountUptoRow.holds Try.pinned (OpenSpec.upto fnDictCountSpec)

/-- 'laws.FnDictAdd', WHERE WHAT IT READS IS OF BULK AT MOST 1048576: true; the input reads as it did. -/
def fnDictAddUptoRow : OpenClaim := { program := "ytopjhdgpdcdklaa", sum := "2eb67a2a2e9254824fe5a7057f6068148ffc0ed72246cb3859b4d56130f80a9a", func := "loop.example/fuzzydictionary/laws.FnDictAdd", spec := "fnDictAdd", inPlace := ["slices.overlaps[string]"], apart := false, narrowed := true }
def FnDictAddUptoSaid : Prop := fnDictAddUptoRow.holds Try.pinned (OpenSpec.upto fnDictAddSpec)

/-- 'laws.FnDictDrop', WHERE WHAT IT READS IS OF BULK AT MOST 1048576: true; the input reads as it did. -/
def fnDictDropUptoRow : OpenClaim := { program := "ytopjhdgpdcdklaa", sum := "2eb67a2a2e9254824fe5a7057f6068148ffc0ed72246cb3859b4d56130f80a9a", func := "loop.example/fuzzydictionary/laws.FnDictDrop", spec := "fnDictDrop", inPlace := ["slices.overlaps[string]"], apart := false, narrowed := true }
def FnDictDropUptoSaid : Prop := fnDictDropUptoRow.holds Try.pinned (OpenSpec.upto fnDictDropSpec)

/-- 'laws.FnDictStarts', WHERE WHAT IT READS IS OF BULK AT MOST 1048576: true; the input reads as it did. -/
def fnDictStartsUptoRow : OpenClaim := { program := "ytopjhdgpdcdklaa", sum := "2eb67a2a2e9254824fe5a7057f6068148ffc0ed72246cb3859b4d56130f80a9a", func := "loop.example/fuzzydictionary/laws.FnDictStarts", spec := "fnDictStarts", apart := false, narrowed := true }
def FnDictStartsUptoSaid : Prop := fnDictStartsUptoRow.holds Try.pinned (OpenSpec.upto fnDictStartsSpec)

/-- 'laws.FnDictOrder', WHERE WHAT IT READS IS OF BULK AT MOST 1048576: true; the input reads as it did. -/
def fnDictOrderUptoRow : OpenClaim := { program := "ytopjhdgpdcdklaa", sum := "2eb67a2a2e9254824fe5a7057f6068148ffc0ed72246cb3859b4d56130f80a9a", func := "loop.example/fuzzydictionary/laws.FnDictOrder", spec := "fnDictOrder", inPlace := ["slices.overlaps[string]"], apart := false, narrowed := true }
def FnDictOrderUptoSaid : Prop := fnDictOrderUptoRow.holds Try.pinned (OpenSpec.upto fnDictOrderSpec)

/-- 'laws.FnExactDictValid', WHERE WHAT IT READS IS OF BULK AT MOST 1048576: true; the input reads as it did. -/
def fnExactDictValidUptoRow : OpenClaim := { program := "ytopjhdgpdcdklaa", sum := "2eb67a2a2e9254824fe5a7057f6068148ffc0ed72246cb3859b4d56130f80a9a", func := "loop.example/fuzzydictionary/laws.FnExactDictValid", spec := "fnExactDictValid", apart := false, narrowed := true }
def FnExactDictValidUptoSaid : Prop := fnExactDictValidUptoRow.holds Try.pinned (OpenSpec.upto fnExactDictValidSpec)

/-- 'laws.FnExactDictWords', WHERE WHAT IT READS IS OF BULK AT MOST 1048576: true; the input reads as it did. -/
def fnExactDictWordsUptoRow : OpenClaim := { program := "ytopjhdgpdcdklaa", sum := "2eb67a2a2e9254824fe5a7057f6068148ffc0ed72246cb3859b4d56130f80a9a", func := "loop.example/fuzzydictionary/laws.FnExactDictWords", spec := "fnExactDictWords", apart := false, narrowed := true }
def FnExactDictWordsUptoSaid : Prop := fnExactDictWordsUptoRow.holds Try.pinned (OpenSpec.upto fnExactDictWordsSpec)

/-- 'laws.FnExactDictCount', WHERE WHAT IT READS IS OF BULK AT MOST 1048576: true; the input reads as it did. -/
def fnExactDictCountUptoRow : OpenClaim := { program := "ytopjhdgpdcdklaa", sum := "2eb67a2a2e9254824fe5a7057f6068148ffc0ed72246cb3859b4d56130f80a9a", func := "loop.example/fuzzydictionary/laws.FnExactDictCount", spec := "fnExactDictCount", apart := false, narrowed := true }
def FnExactDictCountUptoSaid : Prop := fnExactDictCountUptoRow.holds Try.pinned (OpenSpec.upto fnExactDictCountSpec)

/-- 'laws.FnExactDictAdd', WHERE WHAT IT READS IS OF BULK AT MOST 1048576: true; the input reads as it did. -/
def fnExactDictAddUptoRow : OpenClaim := { program := "ytopjhdgpdcdklaa", sum := "2eb67a2a2e9254824fe5a7057f6068148ffc0ed72246cb3859b4d56130f80a9a", func := "loop.example/fuzzydictionary/laws.FnExactDictAdd", spec := "fnExactDictAdd", inPlace := ["slices.overlaps[string]"], apart := false, narrowed := true }
def FnExactDictAddUptoSaid : Prop := fnExactDictAddUptoRow.holds Try.pinned (OpenSpec.upto fnExactDictAddSpec)

/-- 'laws.FnExactDictDrop', WHERE WHAT IT READS IS OF BULK AT MOST 1048576: true; the input reads as it did. -/
def fnExactDictDropUptoRow : OpenClaim := { program := "ytopjhdgpdcdklaa", sum := "2eb67a2a2e9254824fe5a7057f6068148ffc0ed72246cb3859b4d56130f80a9a", func := "loop.example/fuzzydictionary/laws.FnExactDictDrop", spec := "fnExactDictDrop", apart := false, narrowed := true }
def FnExactDictDropUptoSaid : Prop := fnExactDictDropUptoRow.holds Try.pinned (OpenSpec.upto fnExactDictDropSpec)

/-- 'laws.FnExactDictStarts', WHERE WHAT IT READS IS OF BULK AT MOST 1048576: true; the input reads as it did. -/
def fnExactDictStartsUptoRow : OpenClaim := { program := "ytopjhdgpdcdklaa", sum := "2eb67a2a2e9254824fe5a7057f6068148ffc0ed72246cb3859b4d56130f80a9a", func := "loop.example/fuzzydictionary/laws.FnExactDictStarts", spec := "fnExactDictStarts", apart := false, narrowed := true }
def FnExactDictStartsUptoSaid : Prop := fnExactDictStartsUptoRow.holds Try.pinned (OpenSpec.upto fnExactDictStartsSpec)

end Rows
end Go.Proofs.Ytopjhdgpdcdklaa
