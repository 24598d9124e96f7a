/- The walks of stage 4's laws over the landed code. -/
import Derived.Test.YtocmlkkigejifaaImplWithin
import Derived.Test.YtocmlkkigejifaaImplLeast
import Derived.Test.YtocmlkkigejifaaImplDiff
import Derived.Test.YtocmlkkigejifaaImplSwap
import Derived.Test.YtocmlkkigejifaaLwOrder
namespace Go.Proofs.Ytocmlkkigejifaa
open Go.RowKit

theorem walkFnWithinDistance' (A : Option Addr) (n c : Nat) (w : World) (h : Bytes w w.heap.size A n) (hnc : n ≤ c) (hc : c ≤ maxLen) :
    Calls Try.prog 3 #[.slice A n c] w fun e w' => e = .returned (.bool true) ∧ Below w.heap.size w w' := walkFnWithinDistance withinDistance_impl editDistance_impl A n c w h hnc hc
theorem walkFnBandCells' (A : Option Addr) (n c : Nat) (w : World) (h : Bytes w w.heap.size A n) (hnc : n ≤ c) (hc : c ≤ maxLen) :
    Calls Try.prog 4 #[.slice A n c] w fun e w' => e = .returned (.bool true) ∧ Below w.heap.size w w' := walkFnBandCells bandCells_impl A n c w h hnc hc
theorem walkFnLeastDistance' (A : Option Addr) (n c : Nat) (w : World) (h : Bytes w w.heap.size A n) (hnc : n ≤ c) (hc : c ≤ maxLen) :
    Calls Try.prog 5 #[.slice A n c] w fun e w' => e = .returned (.bool true) ∧ Below w.heap.size w w' := walkFnLeastDistance leastDistance_impl editDistance_impl A n c w h hnc hc
theorem walkFnBoundsOrder' (A : Option Addr) (n c : Nat) (w : World) (h : Bytes w w.heap.size A n) (hnc : n ≤ c) (hc : c ≤ maxLen) :
    Calls Try.prog 6 #[.slice A n c] w fun e w' => e = .returned (.bool true) ∧ Below w.heap.size w w' := walkFnBoundsOrder (fun a b w ha hb => (differentPlaces_impl a b w ha hb).mono (fun _ _ h => ⟨h.1, h.2.below⟩)) editDistance_impl swapDistance_impl leastDistance_impl A n c w h hnc hc
theorem walkFnExactLeastDistance' (a b : ByteArray) (w : World) (ha : a.size ≤ maxLen) (hb : b.size ≤ maxLen) :
    Calls Try.prog 9 #[.string a, .string b] w fun e w' => e = .returned (.bool true) ∧ Below w.heap.size w w' := walkFnExactLeastDistance leastDistance_impl a b w ha hb
theorem walkFnExactWithinDistance' (a b : ByteArray) (k : Int) (w : World) (ha : a.size ≤ maxLen) (hb : b.size ≤ maxLen) (hk : (Lit.int .i64 k).wf = true) :
    Calls Try.prog 7 #[.string a, .string b, .int .i64 k] w fun e w' => e = .returned (.bool true) ∧ Below w.heap.size w w' := walkFnExactWithinDistance withinDistance_impl a b k w ha hb hk
theorem walkFnExactBandCells' (a b : ByteArray) (k : Int) (w : World) (ha : a.size ≤ maxLen) (hb : b.size ≤ maxLen) (hk : (Lit.int .i64 k).wf = true) :
    Calls Try.prog 8 #[.string a, .string b, .int .i64 k] w fun e w' => e = .returned (.bool true) ∧ Below w.heap.size w w' := walkFnExactBandCells bandCells_impl a b k w ha hb hk
end Go.Proofs.Ytocmlkkigejifaa
