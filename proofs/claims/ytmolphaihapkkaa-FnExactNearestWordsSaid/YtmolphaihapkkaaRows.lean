/-
  No cell of these rows narrows 'for every input' (looked for: loops, veiled, ifaces, maps, wideKeys, modest, calm, conditions, laid).
  DERIVED. THE GIVEN ROWS OF THIS SEAT. 10 by the template 'for every input the law returns true; each argument reads behind the call as it read before'; 0 by the template 'total and deterministic' (their statements: YtmolphaihapkkaaTotals.lean).
  GIVEN WITH THE SEED: the statements are not yours to turn. If you find one false, say at which input.
  Laid BY PROGRAM, IN A SANDBOX (cutbox-rows.mjs): the forced cells as the released guide's own fill.sh prints them over the translation 2e42267f754675fa… (all of the seat's roots in one cut). By AI agents, Wed Nov 11 2026. No macro, syntax, notation, axiom, sorry.
-/
import Derived.Test.YtmolphaihapkkaaChecked
import GoSem.Claim
import GoSem.ClaimJoined
import GoSem.ClaimMapViews
import Derived.JoinedTies
import Derived.KernelRfl
namespace Go.Proofs.Ytmolphaihapkkaa
/- THE CELL 'sum', in the pinned program and in every row, IS THE sha256 OF THE DUMP (.gsa) THAT YtmolphaihapkkaaProg.lean LOADS. Nothing in Lean hashes anything: it is a label: what it is worth is what the hold of that sum in a sandbox is worth. -/
noncomputable def Try.pinned : Pinned := { name := "ytmolphaihapkkaa", sum := "2e42267f754675faef16022b38a3c351a9a778127c8af139a139edb04a029589", checked := Try.checked }
namespace Rows
def none {H : Type} : Left H := { results := [], args := [] }

/-- 'laws.FnHitsValid': WHATEVER THE INPUT: true; the input reads as it did. -/
def fnHitsValidSpec : ChangeSpec := { name := "fnHitsValid", fn := fun _ => fun
  | [d] => { results := [.lit (.bool true)], args := [d] }
  | _ => none }
def fnHitsValidRow : OpenClaim := { program := "ytmolphaihapkkaa", sum := "2e42267f754675faef16022b38a3c351a9a778127c8af139a139edb04a029589", func := "loop.example/fuzzydictionary/laws.FnHitsValid", spec := "fnHitsValid", apart := false }
def FnHitsValidSaid : Prop := fnHitsValidRow.holds Try.pinned (OpenSpec.ofChange fnHitsValidSpec)

/-- ITS FALSE NEIGHBOUR: 'it returns false'. Refute it at one input. -/
def fnHitsValidWrong : ChangeSpec := { name := "fnHitsValid", fn := fun _ => fun
  | [d] => { results := [.lit (.bool false)], args := [d] }
  | _ => none }
def FnHitsValidWrongFalsely : Prop := fnHitsValidRow.holds Try.pinned (OpenSpec.ofChange fnHitsValidWrong)

/-- 'laws.FnScanWords': WHATEVER THE INPUT: true; the input reads as it did. -/
def fnScanWordsSpec : ChangeSpec := { name := "fnScanWords", fn := fun _ => fun
  | [d] => { results := [.lit (.bool true)], args := [d] }
  | _ => none }
def fnScanWordsRow : OpenClaim := { program := "ytmolphaihapkkaa", sum := "2e42267f754675faef16022b38a3c351a9a778127c8af139a139edb04a029589", func := "loop.example/fuzzydictionary/laws.FnScanWords", spec := "fnScanWords", apart := false }
def FnScanWordsSaid : Prop := fnScanWordsRow.holds Try.pinned (OpenSpec.ofChange fnScanWordsSpec)

/-- ITS FALSE NEIGHBOUR: 'it returns false'. Refute it at one input. -/
def fnScanWordsWrong : ChangeSpec := { name := "fnScanWords", fn := fun _ => fun
  | [d] => { results := [.lit (.bool false)], args := [d] }
  | _ => none }
def FnScanWordsWrongFalsely : Prop := fnScanWordsRow.holds Try.pinned (OpenSpec.ofChange fnScanWordsWrong)

/-- 'laws.FnJoinHits': WHATEVER THE INPUT: true; the input reads as it did. -/
def fnJoinHitsSpec : ChangeSpec := { name := "fnJoinHits", fn := fun _ => fun
  | [d] => { results := [.lit (.bool true)], args := [d] }
  | _ => none }
def fnJoinHitsRow : OpenClaim := { program := "ytmolphaihapkkaa", sum := "2e42267f754675faef16022b38a3c351a9a778127c8af139a139edb04a029589", func := "loop.example/fuzzydictionary/laws.FnJoinHits", spec := "fnJoinHits", unfollowed := true, recurses := true, apart := false }
def FnJoinHitsSaid : Prop := fnJoinHitsRow.holds Try.pinned (OpenSpec.ofChange fnJoinHitsSpec)

/-- ITS FALSE NEIGHBOUR: 'it returns false'. Refute it at one input. -/
def fnJoinHitsWrong : ChangeSpec := { name := "fnJoinHits", fn := fun _ => fun
  | [d] => { results := [.lit (.bool false)], args := [d] }
  | _ => none }
def FnJoinHitsWrongFalsely : Prop := fnJoinHitsRow.holds Try.pinned (OpenSpec.ofChange fnJoinHitsWrong)

/-- 'laws.FnNearestWords': WHATEVER THE INPUT: true; the input reads as it did. -/
def fnNearestWordsSpec : ChangeSpec := { name := "fnNearestWords", fn := fun _ => fun
  | [d] => { results := [.lit (.bool true)], args := [d] }
  | _ => none }
def fnNearestWordsRow : OpenClaim := { program := "ytmolphaihapkkaa", sum := "2e42267f754675faef16022b38a3c351a9a778127c8af139a139edb04a029589", func := "loop.example/fuzzydictionary/laws.FnNearestWords", spec := "fnNearestWords", apart := false }
def FnNearestWordsSaid : Prop := fnNearestWordsRow.holds Try.pinned (OpenSpec.ofChange fnNearestWordsSpec)

/-- ITS FALSE NEIGHBOUR: 'it returns false'. Refute it at one input. -/
def fnNearestWordsWrong : ChangeSpec := { name := "fnNearestWords", fn := fun _ => fun
  | [d] => { results := [.lit (.bool false)], args := [d] }
  | _ => none }
def FnNearestWordsWrongFalsely : Prop := fnNearestWordsRow.holds Try.pinned (OpenSpec.ofChange fnNearestWordsWrong)

/-- 'laws.FnScanMore': WHATEVER THE INPUT: true; the input reads as it did. -/
def fnScanMoreSpec : ChangeSpec := { name := "fnScanMore", fn := fun _ => fun
  | [d] => { results := [.lit (.bool true)], args := [d] }
  | _ => none }
def fnScanMoreRow : OpenClaim := { program := "ytmolphaihapkkaa", sum := "2e42267f754675faef16022b38a3c351a9a778127c8af139a139edb04a029589", func := "loop.example/fuzzydictionary/laws.FnScanMore", spec := "fnScanMore", apart := false }
def FnScanMoreSaid : Prop := fnScanMoreRow.holds Try.pinned (OpenSpec.ofChange fnScanMoreSpec)

/-- ITS FALSE NEIGHBOUR: 'it returns false'. Refute it at one input. -/
def fnScanMoreWrong : ChangeSpec := { name := "fnScanMore", fn := fun _ => fun
  | [d] => { results := [.lit (.bool false)], args := [d] }
  | _ => none }
def FnScanMoreWrongFalsely : Prop := fnScanMoreRow.holds Try.pinned (OpenSpec.ofChange fnScanMoreWrong)

/-- 'laws.FnScanParts': WHATEVER THE INPUT: true; the input reads as it did. -/
def fnScanPartsSpec : ChangeSpec := { name := "fnScanParts", fn := fun _ => fun
  | [d] => { results := [.lit (.bool true)], args := [d] }
  | _ => none }
def fnScanPartsRow : OpenClaim := { program := "ytmolphaihapkkaa", sum := "2e42267f754675faef16022b38a3c351a9a778127c8af139a139edb04a029589", func := "loop.example/fuzzydictionary/laws.FnScanParts", spec := "fnScanParts", unfollowed := true, recurses := true, apart := false }
def FnScanPartsSaid : Prop := fnScanPartsRow.holds Try.pinned (OpenSpec.ofChange fnScanPartsSpec)

/-- ITS FALSE NEIGHBOUR: 'it returns false'. Refute it at one input. -/
def fnScanPartsWrong : ChangeSpec := { name := "fnScanParts", fn := fun _ => fun
  | [d] => { results := [.lit (.bool false)], args := [d] }
  | _ => none }
def FnScanPartsWrongFalsely : Prop := fnScanPartsRow.holds Try.pinned (OpenSpec.ofChange fnScanPartsWrong)

/-- 'laws.FnExactHitsValid': WHATEVER THE INPUT: true; the input reads as it did. -/
def fnExactHitsValidSpec : ChangeSpec := { name := "fnExactHitsValid", fn := fun _ => fun
  | [d] => { results := [.lit (.bool true)], args := [d] }
  | _ => none }
def fnExactHitsValidRow : OpenClaim := { program := "ytmolphaihapkkaa", sum := "2e42267f754675faef16022b38a3c351a9a778127c8af139a139edb04a029589", func := "loop.example/fuzzydictionary/laws.FnExactHitsValid", spec := "fnExactHitsValid", apart := false }
def FnExactHitsValidSaid : Prop := fnExactHitsValidRow.holds Try.pinned (OpenSpec.ofChange fnExactHitsValidSpec)

/-- ITS FALSE NEIGHBOUR: 'it returns false'. Refute it at one input. -/
def fnExactHitsValidWrong : ChangeSpec := { name := "fnExactHitsValid", fn := fun _ => fun
  | [d] => { results := [.lit (.bool false)], args := [d] }
  | _ => none }
def FnExactHitsValidWrongFalsely : Prop := fnExactHitsValidRow.holds Try.pinned (OpenSpec.ofChange fnExactHitsValidWrong)

/-- 'laws.FnExactScanWords': WHATEVER THE INPUT: true; the input reads as it did. -/
def fnExactScanWordsSpec : ChangeSpec := { name := "fnExactScanWords", fn := fun _ => fun
  | [d1, d2, d3] => { results := [.lit (.bool true)], args := [d1, d2, d3] }
  | _ => none }
def fnExactScanWordsRow : OpenClaim := { program := "ytmolphaihapkkaa", sum := "2e42267f754675faef16022b38a3c351a9a778127c8af139a139edb04a029589", func := "loop.example/fuzzydictionary/laws.FnExactScanWords", spec := "fnExactScanWords", apart := false }
def FnExactScanWordsSaid : Prop := fnExactScanWordsRow.holds Try.pinned (OpenSpec.ofChange fnExactScanWordsSpec)

/-- ITS FALSE NEIGHBOUR: 'it returns false'. Refute it at one input. -/
def fnExactScanWordsWrong : ChangeSpec := { name := "fnExactScanWords", fn := fun _ => fun
  | [d1, d2, d3] => { results := [.lit (.bool false)], args := [d1, d2, d3] }
  | _ => none }
def FnExactScanWordsWrongFalsely : Prop := fnExactScanWordsRow.holds Try.pinned (OpenSpec.ofChange fnExactScanWordsWrong)

/-- 'laws.FnExactJoinHits': WHATEVER THE INPUT: true; the input reads as it did. -/
def fnExactJoinHitsSpec : ChangeSpec := { name := "fnExactJoinHits", fn := fun _ => fun
  | [d1, d2] => { results := [.lit (.bool true)], args := [d1, d2] }
  | _ => none }
def fnExactJoinHitsRow : OpenClaim := { program := "ytmolphaihapkkaa", sum := "2e42267f754675faef16022b38a3c351a9a778127c8af139a139edb04a029589", func := "loop.example/fuzzydictionary/laws.FnExactJoinHits", spec := "fnExactJoinHits", unfollowed := true, recurses := true, apart := false }
def FnExactJoinHitsSaid : Prop := fnExactJoinHitsRow.holds Try.pinned (OpenSpec.ofChange fnExactJoinHitsSpec)

/-- ITS FALSE NEIGHBOUR: 'it returns false'. Refute it at one input. -/
def fnExactJoinHitsWrong : ChangeSpec := { name := "fnExactJoinHits", fn := fun _ => fun
  | [d1, d2] => { results := [.lit (.bool false)], args := [d1, d2] }
  | _ => none }
def FnExactJoinHitsWrongFalsely : Prop := fnExactJoinHitsRow.holds Try.pinned (OpenSpec.ofChange fnExactJoinHitsWrong)

/-- 'laws.FnExactNearestWords': WHATEVER THE INPUT: true; the input reads as it did. -/
def fnExactNearestWordsSpec : ChangeSpec := { name := "fnExactNearestWords", fn := fun _ => fun
  | [d1, d2] => { results := [.lit (.bool true)], args := [d1, d2] }
  | _ => none }
def fnExactNearestWordsRow : OpenClaim := { program := "ytmolphaihapkkaa", sum := "2e42267f754675faef16022b38a3c351a9a778127c8af139a139edb04a029589", func := "loop.example/fuzzydictionary/laws.FnExactNearestWords", spec := "fnExactNearestWords", apart := false }
def FnExactNearestWordsSaid : Prop := fnExactNearestWordsRow.holds Try.pinned (OpenSpec.ofChange fnExactNearestWordsSpec)

/-- ITS FALSE NEIGHBOUR: 'it returns false'. Refute it at one input. -/
def fnExactNearestWordsWrong : ChangeSpec := { name := "fnExactNearestWords", fn := fun _ => fun
  | [d1, d2] => { results := [.lit (.bool false)], args := [d1, d2] }
  | _ => none }
def FnExactNearestWordsWrongFalsely : Prop := fnExactNearestWordsRow.holds Try.pinned (OpenSpec.ofChange fnExactNearestWordsWrong)

/- THE SECOND FORM. 'bulk': how many values and letters a reading holds, each counted each time it is reached (what is shared counts as often as it is met; a slice's spare places count too). A statement '..UptoSaid' is the law's where the arguments, and the package variables that the reading takes, are together of bulk at most 1048576: NARROWER than '..Said'. Prove '..Said' where nothing that the law and all that it calls make is longer than what came in: it says more and counts as full. Else prove '..UptoSaid'. A law counts once. -/
mutual
def uptoBulk {H : Type} : DataW H → Nat
  | .lit (.string bytes) => bytes.length + 1
  | .lit _ => 1
  | .nil => 1
  | .ptr d => uptoBulk d + 1
  | .slice elems spare => uptoBulkAll elems + uptoBulkAll spare + 1
  | .agg parts => uptoBulkAll parts + 1
  | .iface _ d => uptoBulk d + 1
  | .map entries => uptoBulkEntries entries + 1
  | .held _ => 1
def uptoBulkAll {H : Type} : List (DataW H) → Nat
  | [] => 0
  | d :: r => uptoBulk d + uptoBulkAll r
def uptoBulkEntries {H : Type} : List (Lit × DataW H) → Nat
  | [] => 0
  | x :: r => uptoBulkEntry x + uptoBulkEntries r
def uptoBulkEntry {H : Type} : Lit × DataW H → Nat
  | (.string bytes, d) => bytes.length + uptoBulk d + 1
  | (_, d) => uptoBulk d + 1
 end
def uptoSmall : (H : Type) → List (DataW H) → Bool := fun _ ds => decide (uptoBulkAll ds ≤ 1048576)
def OpenSpec.upto (s : _root_.Go.ChangeSpec) : _root_.Go.OpenSpec := { _root_.Go.OpenSpec.ofChange s with cond := some uptoSmall }

/-- 'laws.FnHitsValid', WHERE WHAT IT READS IS OF BULK AT MOST 1048576: true; the input reads as it did. -/
def fnHitsValidUptoRow : OpenClaim := { program := "ytmolphaihapkkaa", sum := "2e42267f754675faef16022b38a3c351a9a778127c8af139a139edb04a029589", func := "loop.example/fuzzydictionary/laws.FnHitsValid", spec := "fnHitsValid", apart := false, narrowed := true }
def FnHitsValidUptoSaid : Prop := fnHitsValidUptoRow.holds Try.pinned (OpenSpec.upto fnHitsValidSpec)

/-- 'laws.FnScanWords', WHERE WHAT IT READS IS OF BULK AT MOST 1048576: true; the input reads as it did. -/
def fnScanWordsUptoRow : OpenClaim := { program := "ytmolphaihapkkaa", sum := "2e42267f754675faef16022b38a3c351a9a778127c8af139a139edb04a029589", func := "loop.example/fuzzydictionary/laws.FnScanWords", spec := "fnScanWords", apart := false, narrowed := true }
def FnScanWordsUptoSaid : Prop := fnScanWordsUptoRow.holds Try.pinned (OpenSpec.upto fnScanWordsSpec)

/-- 'laws.FnJoinHits', WHERE WHAT IT READS IS OF BULK AT MOST 1048576: true; the input reads as it did. -/
def fnJoinHitsUptoRow : OpenClaim := { program := "ytmolphaihapkkaa", sum := "2e42267f754675faef16022b38a3c351a9a778127c8af139a139edb04a029589", func := "loop.example/fuzzydictionary/laws.FnJoinHits", spec := "fnJoinHits", unfollowed := true, recurses := true, apart := false, narrowed := true }
def FnJoinHitsUptoSaid : Prop := fnJoinHitsUptoRow.holds Try.pinned (OpenSpec.upto fnJoinHitsSpec)

/-- 'laws.FnNearestWords', WHERE WHAT IT READS IS OF BULK AT MOST 1048576: true; the input reads as it did. -/
def fnNearestWordsUptoRow : OpenClaim := { program := "ytmolphaihapkkaa", sum := "2e42267f754675faef16022b38a3c351a9a778127c8af139a139edb04a029589", func := "loop.example/fuzzydictionary/laws.FnNearestWords", spec := "fnNearestWords", apart := false, narrowed := true }
def FnNearestWordsUptoSaid : Prop := fnNearestWordsUptoRow.holds Try.pinned (OpenSpec.upto fnNearestWordsSpec)

/-- 'laws.FnScanMore', WHERE WHAT IT READS IS OF BULK AT MOST 1048576: true; the input reads as it did. -/
def fnScanMoreUptoRow : OpenClaim := { program := "ytmolphaihapkkaa", sum := "2e42267f754675faef16022b38a3c351a9a778127c8af139a139edb04a029589", func := "loop.example/fuzzydictionary/laws.FnScanMore", spec := "fnScanMore", apart := false, narrowed := true }
def FnScanMoreUptoSaid : Prop := fnScanMoreUptoRow.holds Try.pinned (OpenSpec.upto fnScanMoreSpec)

/-- 'laws.FnScanParts', WHERE WHAT IT READS IS OF BULK AT MOST 1048576: true; the input reads as it did. -/
def fnScanPartsUptoRow : OpenClaim := { program := "ytmolphaihapkkaa", sum := "2e42267f754675faef16022b38a3c351a9a778127c8af139a139edb04a029589", func := "loop.example/fuzzydictionary/laws.FnScanParts", spec := "fnScanParts", unfollowed := true, recurses := true, apart := false, narrowed := true }
def FnScanPartsUptoSaid : Prop := fnScanPartsUptoRow.holds Try.pinned (OpenSpec.upto fnScanPartsSpec)

/-- 'laws.FnExactHitsValid', WHERE WHAT IT READS IS OF BULK AT MOST 1048576: true; the input reads as it did. -/
def fnExactHitsValidUptoRow : OpenClaim := { program := "ytmolphaihapkkaa", sum := "2e42267f754675faef16022b38a3c351a9a778127c8af139a139edb04a029589", func := "loop.example/fuzzydictionary/laws.FnExactHitsValid", spec := "fnExactHitsValid", apart := false, narrowed := true }
def FnExactHitsValidUptoSaid : Prop := fnExactHitsValidUptoRow.holds Try.pinned (OpenSpec.upto fnExactHitsValidSpec)

/-- 'laws.FnExactScanWords', WHERE WHAT IT READS IS OF BULK AT MOST 1048576: true; the input reads as it did. -/
def fnExactScanWordsUptoRow : OpenClaim := { program := "ytmolphaihapkkaa", sum := "2e42267f754675faef16022b38a3c351a9a778127c8af139a139edb04a029589", func := "loop.example/fuzzydictionary/laws.FnExactScanWords", spec := "fnExactScanWords", apart := false, narrowed := true }
def FnExactScanWordsUptoSaid : Prop := fnExactScanWordsUptoRow.holds Try.pinned (OpenSpec.upto fnExactScanWordsSpec)

/-- 'laws.FnExactJoinHits', WHERE WHAT IT READS IS OF BULK AT MOST 1048576: true; the input reads as it did. -/
def fnExactJoinHitsUptoRow : OpenClaim := { program := "ytmolphaihapkkaa", sum := "2e42267f754675faef16022b38a3c351a9a778127c8af139a139edb04a029589", func := "loop.example/fuzzydictionary/laws.FnExactJoinHits", spec := "fnExactJoinHits", unfollowed := true, recurses := true, apart := false, narrowed := true }
def FnExactJoinHitsUptoSaid : Prop := fnExactJoinHitsUptoRow.holds Try.pinned (OpenSpec.upto fnExactJoinHitsSpec)

/-- 'laws.FnExactNearestWords', WHERE WHAT IT READS IS OF BULK AT MOST 1048576: true; the input reads as it did. -/
def fnExactNearestWordsUptoRow : OpenClaim := { program := "ytmolphaihapkkaa", sum := "2e42267f754675faef16022b38a3c351a9a778127c8af139a139edb04a029589", func := "loop.example/fuzzydictionary/laws.FnExactNearestWords", spec := "fnExactNearestWords", apart := false, narrowed := true }
def FnExactNearestWordsUptoSaid : Prop := fnExactNearestWordsUptoRow.holds Try.pinned (OpenSpec.upto fnExactNearestWordsSpec)

end Rows
end Go.Proofs.Ytmolphaihapkkaa
